package script

import (
	"slices"

	"cordon/api"
	"cordon/change"
)

// aim is what a statement's names are found to mean.
type aim struct {
	n      int         // the place of its table, procedure or channel
	names  []string    // its variables' names; columns are told by their places, as cols
	cols   []int       // the places of an update's columns
	types  []int       // with what its expressions, or its query's columns, must be one
	places []api.Place // what its expressions can name, beside variables
}

func (m maker) aim(s api.Stmt) (aim, api.Errno) {
	switch s.Kind {
	case api.StSet, api.StFor, api.StInput:
		return m.variables(s.Names)
	case api.StIf, api.StWhile:
		return aim{types: []int{api.TyBool}}, api.OK
	case api.StPrint:
		return m.channel(s.Table)
	case api.StCall:
		return m.procedure(s.Table)
	case api.StInsert, api.StInsertQ:
		return m.table(s.Table)
	case api.StUpdate, api.StDelete:
		return m.changed(s)
	}
	return aim{}, api.OK
}

func (m maker) variables(names []string) (aim, api.Errno) {
	places, err := found(m.vars, varName, names...)
	return aim{names: slices.Clone(names), types: each(places, func(at int) int { return m.vars[at].Type })}, err
}

// channel asks for TyNull, as that is one with all types.
func (m maker) channel(name string) (aim, api.Errno) {
	at, err := only(found(m.channels, func(c api.Named) string { return c.Name }, name))
	return aim{n: at, types: []int{api.TyNull}}, err
}

func (m maker) procedure(name string) (aim, api.Errno) {
	at, err := only(found(m.procs, procName, name))
	if err != api.OK {
		return aim{}, err
	}
	return aim{n: at, types: each(m.procs[at].Params, func(v api.Var) int { return v.Type })}, api.OK
}

// table is what rows that are added to one must be: they are made without its columns.
func (m maker) table(name string) (aim, api.Errno) {
	at, is := m.Table(name)
	if !is {
		return aim{}, api.ErrName
	}
	return aim{n: at, types: each(m.tables[at].Cols, fieldType)}, api.OK
}

// changed is what rows that stand in a table already are changed by: that names the table's columns.
func (m maker) changed(s api.Stmt) (aim, api.Errno) {
	a, err := m.table(s.Table)
	if err != api.OK {
		return aim{}, err
	}
	of := m.tables[a.n]
	if a.cols, err = found(of.Cols, func(f api.Field) string { return f.Name }, s.Names...); err != api.OK {
		return aim{}, err
	}
	fixed := change.Fixed(of)
	if slices.ContainsFunc(a.cols, func(at int) bool { return slices.Contains(fixed, at) }) {
		return aim{}, api.ErrShape
	}
	a.types = each(a.cols, func(at int) int { return of.Cols[at].Type })
	a.places = each(of.Cols, func(f api.Field) api.Place { return api.Place{T: of.Name, Name: f.Name, Type: f.Type} })
	return a, api.OK
}

func fieldType(f api.Field) int { return f.Type }

// found are the places of names among things that have some; each name must be there, and none twice.
func found[T any](things []T, name func(x T) string, names ...string) ([]int, api.Errno) {
	if !apart(func(wanted string) string { return wanted }, names...) {
		return nil, api.ErrName
	}
	var out []int
	for _, wanted := range names {
		at := slices.IndexFunc(things, func(x T) bool { return name(x) == wanted })
		if at < 0 {
			return nil, api.ErrName
		}
		out = append(out, at)
	}
	return out, api.OK
}

// only is the place of the one name that was looked for.
func only(places []int, err api.Errno) (int, api.Errno) {
	if err != api.OK {
		return 0, err
	}
	return places[0], api.OK
}
