package script

import (
	"slices"

	"cordon/algebra"
	"cordon/api"
	"cordon/schema"
	"cordon/types"
)

// maker makes what a procedure does. It asks its catalog for all tables and channels once, as they are cloned each time.
type maker struct {
	*schema.Catalog
	tables   []api.Relation
	channels []api.Named
	procs    []api.Proc
	vars     []api.Var // what the procedure sees
}

func newMaker(c *schema.Catalog, procs []api.Proc) maker {
	m := maker{Catalog: c, procs: procs}
	m.tables, m.channels = m.Tables(), m.Channels()
	return m
}

// code makes a procedure; with an error it tells the place of the statement that is not right.
func (m maker) code(p api.Proc) (api.Code, int, api.Errno) {
	m.vars = sees(p)
	body, at, err := m.block(p.Body)
	if err != api.OK {
		return api.Code{}, at, err
	}
	return api.Code{Name: p.Name, Params: slices.Clone(p.Params), Vars: slices.Clone(p.Vars), Body: body}, 0, api.OK
}

func (m maker) block(list []api.Stmt) ([]api.Op, int, api.Errno) {
	var out []api.Op
	for _, s := range list {
		op, at, err := m.op(s)
		if err != api.OK {
			return nil, at, err
		}
		out = append(out, op)
	}
	return out, 0, api.OK
}

func (m maker) op(s api.Stmt) (api.Op, int, api.Errno) {
	op, err := m.head(s)
	if err != api.OK {
		return api.Op{}, s.At, err
	}
	at := 0
	if op.Body, at, err = m.block(s.Body); err != api.OK {
		return api.Op{}, at, err
	}
	if op.Else, at, err = m.block(s.Else); err != api.OK {
		return api.Op{}, at, err
	}
	return op, 0, api.OK
}

// head makes a statement without its blocks. That it has the parts of its kind, and no others, is asked by layer 7.
func (m maker) head(s api.Stmt) (api.Op, api.Errno) {
	a, err := m.aim(s)
	if err != api.OK {
		return api.Op{}, err
	}
	op := api.Op{Kind: s.Kind, At: s.At, N: a.n, Names: a.names, Cols: a.cols}
	switch s.Kind {
	case api.StInput:
		err = fit(a.types, api.TyInt) // what comes in is a number
	case api.StFor, api.StInsertQ:
		op.Plan, err = m.plans(a, s.Q)
	case api.StCall, api.StInsert:
		if len(s.E) != len(a.types) {
			return api.Op{}, api.ErrShape
		}
		fallthrough
	default:
		if op.E, err = m.nodes(a.places, a.types, s.E); err == api.OK {
			op.Where, err = m.nodes(a.places, []int{api.TyBool}, s.Where)
		}
	}
	if err != api.OK {
		return api.Op{}, err
	}
	return op, api.OK
}

// nodes makes expressions, each of which is held to the type wanted at its place ahead of the next one.
func (m maker) nodes(places []api.Place, wanted []int, list []api.Expr) ([]api.Node, api.Errno) {
	var out []api.Node
	for i, x := range list {
		kind, err := types.Expr(m.Catalog, m.vars, places, x)
		if err != api.OK {
			return nil, err
		}
		if err := fit(wanted[i:i+1], kind); err != api.OK {
			return nil, err
		}
		n, err := algebra.Node(m.Catalog, m.vars, places, x)
		if err != api.OK {
			return nil, err
		}
		out = append(out, n)
	}
	return out, api.OK
}

// plans makes queries, each of which has all of its columns' types ahead of what is asked of them.
func (m maker) plans(a aim, list []api.Query) ([]api.Plan, api.Errno) {
	var out []api.Plan
	for _, q := range list {
		cols, err := types.Query(m.Catalog, m.vars, q)
		if err != api.OK {
			return nil, err
		}
		if err := fit(a.types, each(cols, func(p api.Place) int { return p.Type })...); err != api.OK {
			return nil, err
		}
		p, err := algebra.Plan(m.Catalog, m.vars, q)
		if err != api.OK {
			return nil, err
		}
		out = append(out, p)
	}
	return out, api.OK
}

// fit asks that there are as many types as are wanted, and each is one with that at its place.
func fit(wanted []int, given ...int) api.Errno {
	if len(given) != len(wanted) {
		return api.ErrShape
	}
	for i, kind := range given {
		if kind != wanted[i] && kind != api.TyNull && wanted[i] != api.TyNull {
			return api.ErrType
		}
	}
	return api.OK
}

// each is a list of what is told of each member of another one, in order.
func each[A, B any](l []A, tell func(x A) B) []B {
	var out []B
	for _, x := range l {
		out = append(out, tell(x))
	}
	return out
}
