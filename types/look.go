package types

import (
	"slices"

	"cordon/api"
	"cordon/schema"
)

// mode is of what an expression tells something: that says what may stand in it.
type mode int

const (
	ofRows   mode = iota // of each row for itself, so there is nothing to gather
	ofGroups             // of each group, which has one value just in the columns that it is by
)

// look is where an expression stands, and what it can name there. It is handed on as a copy, so that what stands within can be looked at in another mode, or over other places.
type look struct {
	c      *schema.Catalog
	tables []api.Relation
	vars   []api.Var
	places []api.Place
	group  []int // which of the places rows are grouped by
	mode   mode
}

// newLook asks the catalog for its tables once, as all of them are cloned each time.
func newLook(c *schema.Catalog, vars []api.Var) look {
	return look{c: c, tables: c.Tables(), vars: vars}
}

// over is a look at rows with these places, each for itself, whatever is around.
func (l look) over(places []api.Place) look {
	l.places, l.group, l.mode = places, nil, ofRows
	return l
}

// place is where a column stands, if just one is such.
func (l look) place(x api.Expr) (int, api.Errno) {
	such := func(p api.Place) bool { return p.Name == x.S && (x.T == "" || p.T == x.T) }
	at := slices.IndexFunc(l.places, such)
	if at < 0 || slices.ContainsFunc(l.places[at+1:], such) {
		return 0, api.ErrName
	}
	return at, api.OK
}

func (l look) column(x api.Expr) (int, api.Errno) {
	at, err := l.place(x)
	if err != api.OK {
		return 0, err
	}
	if l.mode == ofGroups && !slices.Contains(l.group, at) {
		return 0, api.ErrShape
	}
	return l.places[at].Type, api.OK
}

func (l look) variable(name string) (int, api.Errno) {
	at := slices.IndexFunc(l.vars, func(v api.Var) bool { return v.Name == name })
	if at < 0 {
		return 0, api.ErrName
	}
	return l.vars[at].Type, api.OK
}
