package script_test

import (
	"slices"

	"cordon/algebra"
	"cordon/api"
	"cordon/change"
	"cordon/schema"
	"cordon/types"
	"cordon/unparse"
)

// The second way: each statement's questions are written out one by one, as the chapter's words stand, and asked of a flat list of all statements; what is made is made for itself, of scripts of which nothing is wrong.

type place struct {
	vars []api.Var
	stmt api.Stmt
}

// flat are statements with those in their blocks right behind each.
func flat(vars []api.Var, list []api.Stmt) []place {
	var out []place
	for _, s := range list {
		out = append(out, place{vars, s})
		out = append(out, flat(vars, s.Body)...)
		out = append(out, flat(vars, s.Else)...)
	}
	return out
}

func second(c *schema.Catalog, s api.Script) (api.Program, int, api.Errno) {
	if c.Lattice() == nil {
		return api.Program{}, 0, api.ErrNil
	}
	if _, err := unparse.Script(s); err != api.OK {
		return api.Program{}, 0, err
	}
	if namedTwice(s) {
		return api.Program{}, 0, api.ErrName
	}
	var all []place
	for _, p := range s.Procs {
		all = append(all, flat(slices.Concat(p.Params, p.Vars), p.Body)...)
	}
	w := worldOf{c, c.Tables(), c.Channels(), s.Procs}
	for _, of := range append(all, flat(s.Vars, s.Body)...) {
		for _, ask := range w.questions(of.vars, of.stmt) {
			if err := ask(); err != api.OK {
				return api.Program{}, of.stmt.At, err
			}
		}
	}
	out := api.Program{}
	for _, p := range s.Procs {
		out.Procs = append(out.Procs, api.Code{Name: p.Name, Params: p.Params, Vars: p.Vars, Body: w.ops(slices.Concat(p.Params, p.Vars), p.Body)})
	}
	out.Procs = append(out.Procs, api.Code{Vars: s.Vars, Body: w.ops(s.Vars, s.Body)})
	return copied(out), 0, api.OK
}

// namedTwice holds each name against each one behind it.
func namedTwice(s api.Script) bool {
	twice := false
	among := func(l []api.Var) {
		for i := range l {
			for j := range i {
				twice = twice || l[i].Name == l[j].Name
			}
		}
	}
	among(s.Vars)
	for i, p := range s.Procs {
		among(slices.Concat(p.Params, p.Vars))
		for j := range i {
			twice = twice || s.Procs[j].Name == p.Name
		}
	}
	return twice
}

type worldOf struct {
	c        *schema.Catalog
	tables   []api.Relation
	channels []api.Named
	procs    []api.Proc
}

// table, channel and proc are places by names; -1, if there is none.
func (w worldOf) table(name string) int {
	return slices.IndexFunc(w.tables, func(r api.Relation) bool { return r.Name == name })
}

func (w worldOf) channel(name string) int {
	return slices.IndexFunc(w.channels, func(c api.Named) bool { return c.Name == name })
}

func (w worldOf) proc(name string) int {
	return slices.IndexFunc(w.procs, func(p api.Proc) bool { return p.Name == name })
}

func column(r api.Relation, name string) int {
	return slices.IndexFunc(r.Cols, func(f api.Field) bool { return f.Name == name })
}

// typeOf is a variable's type; -1, if there is none.
func typeOf(vars []api.Var, name string) int {
	for _, v := range vars {
		if v.Name == name {
			return v.Type
		}
	}
	return -1
}

type question = func() api.Errno

// asked is an error, unless something is so.
func asked(is func() bool, err api.Errno) question {
	return func() api.Errno {
		if is() {
			return api.OK
		}
		return err
	}
}

func oneType(a, b int) bool { return a == b || a == api.TyNull || b == api.TyNull }

// expr asks for an expression's type, and then whether that is one with another one, which is told when it is asked for.
func (w worldOf) expr(vars []api.Var, cols []api.Place, x api.Expr, with func() int) question {
	return func() api.Errno {
		kind, err := types.Expr(w.c, vars, cols, x)
		if err == api.OK && !oneType(kind, with()) {
			err = api.ErrType
		}
		return err
	}
}

func constant(n int) func() int { return func() int { return n } }

// query asks for a query's columns, how many there are, and whether each is one with another type.
func (w worldOf) query(vars []api.Var, q api.Query, with func() []int) question {
	return func() api.Errno {
		cols, err := types.Query(w.c, vars, q)
		if err != api.OK {
			return err
		}
		if len(cols) != len(with()) {
			return api.ErrShape
		}
		for i, kind := range with() {
			if !oneType(kind, cols[i].Type) {
				return api.ErrType
			}
		}
		return api.OK
	}
}

func distinct(l []string) bool { return len(slices.Compact(slices.Sorted(slices.Values(l)))) == len(l) }

// questions are all that is asked of a statement, blocks aside, in order; each may take for granted what is asked ahead.
func (w worldOf) questions(vars []api.Var, s api.Stmt) []question {
	var out []question
	ask := func(is func() bool, err api.Errno) { out = append(out, asked(is, err)) }
	for _, name := range s.Names {
		if s.Kind != api.StUpdate {
			ask(func() bool { return typeOf(vars, name) >= 0 && distinct(s.Names) }, api.ErrName)
		}
	}
	of := func() api.Relation { return w.tables[w.table(s.Table)] }
	isTable := func() bool { return w.table(s.Table) >= 0 }
	colTypes := func() []int { return numbered(len(of().Cols), func(i int) int { return of().Cols[i].Type }) }
	switch s.Kind {
	case api.StSet:
		out = append(out, w.expr(vars, nil, s.E[0], func() int { return typeOf(vars, s.Names[0]) }))
	case api.StIf, api.StWhile:
		out = append(out, w.expr(vars, nil, s.E[0], constant(api.TyBool)))
	case api.StInput:
		ask(func() bool { return typeOf(vars, s.Names[0]) == api.TyInt }, api.ErrType)
	case api.StFor:
		out = append(out, w.query(vars, s.Q[0], func() []int {
			return numbered(len(s.Names), func(i int) int { return typeOf(vars, s.Names[i]) })
		}))
	case api.StPrint:
		ask(func() bool { return w.channel(s.Table) >= 0 }, api.ErrName)
		out = append(out, w.expr(vars, nil, s.E[0], constant(api.TyNull)))
	case api.StCall:
		ask(func() bool { return w.proc(s.Table) >= 0 }, api.ErrName)
		ask(func() bool { return len(w.procs[w.proc(s.Table)].Params) == len(s.E) }, api.ErrShape)
		for i, x := range s.E {
			out = append(out, w.expr(vars, nil, x, func() int { return w.procs[w.proc(s.Table)].Params[i].Type }))
		}
	case api.StInsert:
		ask(isTable, api.ErrName)
		ask(func() bool { return len(of().Cols) == len(s.E) }, api.ErrShape)
		for i, x := range s.E {
			out = append(out, w.expr(vars, nil, x, func() int { return of().Cols[i].Type }))
		}
	case api.StInsertQ:
		ask(isTable, api.ErrName)
		out = append(out, w.query(vars, s.Q[0], colTypes))
	case api.StUpdate, api.StDelete:
		ask(isTable, api.ErrName)
		if isTable() {
			out = append(out, w.changes(vars, of(), s)...)
		}
	}
	return out
}

// changes are what is asked of an update or a delete of a table that is there.
func (w worldOf) changes(vars []api.Var, of api.Relation, s api.Stmt) []question {
	var out []question
	for _, name := range s.Names {
		out = append(out, asked(func() bool { return column(of, name) >= 0 && distinct(s.Names) }, api.ErrName))
	}
	for _, name := range s.Names {
		out = append(out, asked(func() bool { return !slices.Contains(change.Fixed(of), column(of, name)) }, api.ErrShape))
	}
	for i, x := range s.E {
		out = append(out, w.expr(vars, placesOf(of), x, func() int { return of.Cols[column(of, s.Names[i])].Type }))
	}
	for _, x := range s.Where {
		out = append(out, w.expr(vars, placesOf(of), x, constant(api.TyBool)))
	}
	return out
}

// placesOf are a table's columns as a statement names them.
func placesOf(r api.Relation) []api.Place {
	return numbered(len(r.Cols), func(i int) api.Place {
		return api.Place{T: r.Name, Name: r.Cols[i].Name, Type: r.Cols[i].Type}
	})
}

// ops are statements that are right, as they are done.
func (w worldOf) ops(vars []api.Var, list []api.Stmt) []api.Op {
	return numbered(len(list), func(i int) api.Op {
		s := list[i]
		out := api.Op{Kind: s.Kind, At: s.At, Body: w.ops(vars, s.Body), Else: w.ops(vars, s.Else)}
		var cols []api.Place
		switch s.Kind {
		case api.StSet, api.StFor, api.StInput:
			out.Names = s.Names
		case api.StPrint:
			out.N = w.channel(s.Table)
		case api.StCall:
			out.N = w.proc(s.Table)
		case api.StInsert, api.StInsertQ:
			out.N = w.table(s.Table)
		case api.StUpdate, api.StDelete:
			out.N = w.table(s.Table)
			cols = placesOf(w.tables[out.N])
			out.Cols = numbered(len(s.Names), func(i int) int { return column(w.tables[out.N], s.Names[i]) })
		}
		nodes := func(l []api.Expr) []api.Node {
			return numbered(len(l), func(i int) api.Node { return must(algebra.Node(w.c, vars, cols, l[i])) })
		}
		out.E, out.Where = nodes(s.E), nodes(s.Where)
		out.Plan = numbered(len(s.Q), func(i int) api.Plan { return must(algebra.Plan(w.c, vars, s.Q[i])) })
		return out
	})
}

func must[T any](x T, err api.Errno) T {
	if err != api.OK {
		panic(err)
	}
	return x
}
