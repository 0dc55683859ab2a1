package audit_test

import (
	"fmt"
	"slices"

	"cordon/algebra"
	"cordon/api"
)

func madeVars() []api.Var {
	return []api.Var{{Name: "n"}, {Name: "b", Type: api.TyBool}, {Name: "i", Type: api.TyInt}, {Name: "s", Type: api.TyText}, {Name: "i", Type: api.TyText}, {Name: "j", Type: api.TyInt}}
}

func (m *maker) kind() int { return m.Intn(4) }

func (m *maker) kinds(most int) []int {
	return numbered(1+m.Intn(most), func(int) int { return m.kind() })
}

// near is a type, or null now and then.
func (m *maker) near(kind int) int { return pick(m.Rand, kind, kind, kind, kind, api.TyNull) }

// env is where an expression is made: all places, those that may be named, and whether things may be gathered there.
type env struct {
	all, named []api.Place
	groups     bool
}

func (m *maker) name(e env, p api.Place) api.Expr {
	alone := 0
	for _, o := range e.all {
		if o.Name == p.Name {
			alone++
		}
	}
	x := api.Expr{Kind: api.ExCol, S: p.Name, T: p.T}
	if alone == 1 && m.Intn(2) == 0 {
		x.T = ""
	}
	return x
}

func (m *maker) small(e env, kind int) api.Expr {
	found := slices.DeleteFunc(slices.Clone(e.named), func(p api.Place) bool { return p.Type != kind })
	switch {
	case len(found) > 0 && m.Intn(4) > 0:
		return m.name(e, pick(m.Rand, found...))
	case m.Intn(4) == 0:
		return api.Expr{Kind: api.ExVar, S: letters[kind:][:1]}
	case kind == api.TyInt && m.Intn(20) == 0:
		return api.Expr{Kind: api.ExVar, S: "j"}
	}
	return one(api.Expr{Kind: api.ExNull}, api.Expr{Kind: api.ExBool, N: m.Intn(2)}, api.Expr{Kind: api.ExInt, N: m.Intn(4)}, api.Expr{Kind: api.ExText, S: pick(m.Rand, "", "a", "b")})[kind]
}

// expr makes one of a type, so deep at the most.
func (m *maker) expr(e env, kind, deep int) api.Expr {
	part := func(kind int) api.Expr { return m.expr(e, kind, deep-1) }
	switch {
	case deep <= 1:
		return m.small(e, kind)
	case e.groups && m.Intn(3) == 0:
		return m.gathered(e, kind, deep)
	case m.Intn(6) == 0:
		return api.Expr{Kind: api.ExCase, Kids: one(part(m.near(api.TyBool)), part(kind), part(m.near(kind)))}
	case m.Intn(8) == 0:
		return api.Expr{Kind: api.ExScalar, Q: one(m.query(one(kind), deep-1))}
	case kind == api.TyBool:
		return m.truth(part, deep)
	case m.Intn(3) > 0:
		return m.small(e, kind)
	case kind == api.TyInt && m.Intn(3) == 0:
		return api.Expr{Kind: api.ExNeg, Kids: one(part(m.near(kind)))}
	case kind == api.TyInt:
		return api.Expr{Kind: api.ExBin, S: pick(m.Rand, "+", "-", "*", "/", "%"), Kids: one(part(m.near(kind)), part(m.near(kind)))}
	case kind == api.TyText:
		return api.Expr{Kind: api.ExBin, S: "||", Kids: one(part(m.near(kind)), part(m.near(kind)))}
	}
	return m.small(e, kind)
}

func (m *maker) gathered(e env, kind, deep int) api.Expr {
	rows := env{all: e.all, named: e.all}
	x := api.Expr{Kind: api.ExAgg, S: pick(m.Rand, "min", "max")}
	if kind == api.TyInt {
		x.S = pick(m.Rand, "min", "max", "sum", "count", "count")
	}
	switch {
	case x.S == "count" && m.Intn(2) == 0:
	case x.S == "count":
		x.Kids = one(m.expr(rows, m.kind(), deep-1))
	default:
		x.Kids = one(m.expr(rows, kind, deep-1))
	}
	return x
}

func (m *maker) truth(part func(kind int) api.Expr, deep int) api.Expr {
	other := m.kind()
	switch m.Intn(8) {
	case 0:
		return api.Expr{Kind: api.ExNot, Kids: one(part(m.near(api.TyBool)))}
	case 1:
		return api.Expr{Kind: api.ExIs, N: m.Intn(2), Kids: one(part(other))}
	case 2, 3:
		return api.Expr{Kind: api.ExBin, S: pick(m.Rand, "or", "and"), Kids: one(part(m.near(api.TyBool)), part(m.near(api.TyBool)))}
	case 4:
		return api.Expr{Kind: api.ExExists, Q: one(m.query(m.kinds(2), deep-1))}
	case 5:
		return api.Expr{Kind: api.ExIn, N: m.Intn(2), Kids: one(part(other)), Q: one(m.query(one(m.near(other)), deep-1))}
	}
	return api.Expr{Kind: api.ExBin, S: pick(m.Rand, "=", "<>", "<", "<=", ">", ">="), Kids: one(part(other), part(m.near(other)))}
}

// query makes one whose columns have these types, or are null.
func (m *maker) query(kinds []int, deep int) api.Query {
	names := numbered(len(kinds), func(i int) string {
		m.count++
		return fmt.Sprint(letters[kinds[i]:][:1], "q", m.count)
	})
	if deep <= 1 || m.Intn(5) > 0 {
		return m.selected(names, kinds, deep)
	}
	return api.Query{Kind: api.QuUnion + m.Intn(4), Limit: -1, Kids: one(m.query(kinds, deep-1), m.query(kinds, deep-1))}
}

func (m *maker) selected(names []string, kinds []int, deep int) api.Query {
	q := api.Query{Kind: api.QuSelect, Limit: pick(m.Rand, -1, -1, -1, -1, 1, 2), Distinct: m.Intn(4) == 0}
	var e env
	if m.Intn(10) > 0 {
		q.From = make([]api.From, 1)
		q.From[0], e.all = m.from(deep)
	}
	e.named = e.all
	if m.Intn(3) == 0 {
		q.Where = one(m.expr(e, m.near(api.TyBool), deep))
	}
	if m.Intn(3) == 0 {
		e.groups, e.named = true, nil
		for range m.Intn(3) {
			if len(e.all) > 0 {
				p := pick(m.Rand, e.all...)
				q.Group, e.named = append(q.Group, m.name(e, p)), append(e.named, p)
			}
		}
	}
	var cols env
	for i, kind := range kinds {
		x := m.expr(e, kind, deep)
		if e.groups && len(q.Group) == 0 && i == 0 { // so that it is grouped
			x = m.gathered(e, kind, deep)
		}
		q.Items = append(q.Items, api.Item{E: x, Name: names[i]})
		cols.all = append(cols.all, api.Place{Name: names[i], Type: kind})
	}
	cols.named = cols.all
	if len(q.Group) > 0 && m.Intn(2) == 0 {
		q.Having = one(m.expr(e, m.near(api.TyBool), deep))
	}
	for range max(0, m.Intn(5)-2) {
		q.Order = append(q.Order, api.Key{E: m.expr(cols, m.kind(), deep-1), Desc: m.Intn(2) == 0})
	}
	return q
}

// from makes what rows come from, and tells the places of these.
func (m *maker) from(deep int) (api.From, []api.Place) {
	f, places := m.single(deep)
	for range max(0, m.Intn(5)-3) {
		g, more := m.single(deep)
		places = slices.Concat(places, more)
		on := m.expr(env{all: places, named: places}, m.near(api.TyBool), min(deep, 2))
		f = api.From{Kind: pick(m.Rand, api.FrJoin, api.FrJoin, api.FrLeft), Kids: one(f, g), On: one(on)}
	}
	return f, places
}

func (m *maker) single(deep int) (api.From, []api.Place) {
	m.count++
	as := fmt.Sprint("f", m.count)
	if deep > 1 && m.Intn(4) == 0 {
		kinds := m.kinds(3)
		q := m.query(kinds, deep-1)
		head := q
		for head.Kind != api.QuSelect {
			head = head.Kids[0]
		}
		return api.From{Kind: api.FrQuery, As: as, Q: one(q)}, numbered(len(kinds), func(i int) api.Place {
			return api.Place{T: as, Name: head.Items[i].Name, Type: kinds[i]}
		})
	}
	of := pick(m.Rand, m.s.Tables...)
	f := api.From{Kind: api.FrTable, Table: of.Name, As: as, Visible: m.Intn(2) == 0}
	return f, numbered(len(of.Cols), func(i int) api.Place { return api.Place{T: as, Name: of.Cols[i].Name, Type: of.Cols[i].Type} })
}

// plan makes one; there is none now and then, as the query is too long, or too wide.
func (m *maker) plan() (api.Plan, bool) {
	q := m.query(m.kinds(3), 1+m.Intn(4))
	if m.Intn(4) == 0 {
		q = m.around(q)
	}
	p, err := algebra.Plan(m.c, madeVars(), q)
	return p, err == api.OK
}

// around makes a query that tells of another one not what its values are, but how many rows it has, so that what may be raised in it is told, too.
func (m *maker) around(q api.Query) api.Query {
	x := pick(m.Rand, api.Expr{Kind: api.ExInt, N: 7}, api.Expr{Kind: api.ExAgg, S: "count"})
	return api.Query{Kind: api.QuSelect, Limit: -1, Items: one(api.Item{E: x, Name: "told"}), From: one(api.From{Kind: api.FrQuery, As: "around", Q: one(q)})}
}
