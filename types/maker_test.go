package types_test

import (
	"fmt"
	"math/rand"
	"slices"

	"cordon/api"
)

// maker makes expressions and queries at random, that have types but for slips. A column's name begins with a letter of its type, whoever names it.
type maker struct {
	rnd   *rand.Rand
	s     api.Schema
	vars  []api.Var
	slips int // one in so many parts is wrong; 0: none
	count int
}

const letters = "nbis" // by type

// letterType is the type of a column that is named so.
func letterType(name string) int { return slices.Index([]byte(letters), name[0]) }

func pick[T any](m *maker, l ...T) T { return l[m.rnd.Intn(len(l))] }

func (m *maker) slip() bool { return m.slips > 0 && m.rnd.Intn(m.slips) == 0 }

// env is where an expression is made: all places, those that may be named, and whether things may be gathered there.
type env struct {
	all, named []api.Place
	groups     bool
}

func (m *maker) kind() int { return pick(m, api.TyNull, api.TyBool, api.TyInt, api.TyText) }

// near is a type, or null now and then.
func (m *maker) near(kind int) int { return pick(m, kind, kind, kind, api.TyNull) }

// name is how a place is named: by its T where it must be.
func (m *maker) name(e env, p api.Place) api.Expr {
	alone := 0
	for _, o := range e.all {
		if o.Name == p.Name {
			alone++
		}
	}
	if p.T == "" || alone == 1 && m.rnd.Intn(2) == 0 {
		return col(p.Name)
	}
	return colOf(p.T, p.Name)
}

func (m *maker) small(e env, kind int) api.Expr {
	found := slices.DeleteFunc(slices.Clone(e.named), func(p api.Place) bool { return p.Type != kind })
	if len(found) > 0 && m.rnd.Intn(4) > 0 {
		return m.name(e, pick(m, found...))
	}
	if m.rnd.Intn(4) == 0 {
		for _, v := range m.vars {
			if v.Type == kind {
				return variable(v.Name)
			}
		}
	}
	return constants()[kind]
}

// wrong is something that may not stand there, for the most part.
func (m *maker) wrong(e env) api.Expr {
	out := one(col("nosuch"), variable("nosuch"), colOf("nosuch", "i1"), agg("count"), agg("sum", m.small(e, api.TyInt)), agg("max", agg("count")), scalar(sel(null(), null())))
	if len(e.all) > 0 {
		p := pick(m, e.all...)
		out = append(out, col(p.Name), colOf(p.T+"o", p.Name), col(p.Name), agg("min", col(p.Name)))
	}
	return pick(m, out...)
}

// expr makes one of a type, so deep at the most.
func (m *maker) expr(e env, kind, deep int) api.Expr {
	if m.slip() {
		if m.rnd.Intn(2) == 0 {
			return m.wrong(e)
		}
		kind = m.kind()
	}
	part := func(kind int) api.Expr { return m.expr(e, kind, deep-1) }
	switch {
	case deep <= 1:
		return m.small(e, kind)
	case e.groups && m.rnd.Intn(3) == 0:
		return m.gathered(e, kind, deep)
	case m.rnd.Intn(6) == 0:
		return choice(part(m.near(api.TyBool)), part(kind), part(m.near(kind)))
	case m.rnd.Intn(8) == 0:
		return scalar(m.query(one(kind), deep-1))
	}
	switch kind {
	case api.TyBool:
		return m.truth(part, deep)
	case api.TyInt:
		if m.rnd.Intn(3) == 0 {
			return neg(part(m.near(kind)))
		}
		return bin(part(m.near(kind)), pick(m, "+", "-", "*", "/", "%"), part(m.near(kind)))
	case api.TyText:
		return bin(part(m.near(kind)), "||", part(m.near(kind)))
	}
	return m.small(e, kind)
}

func (m *maker) gathered(e env, kind, deep int) api.Expr {
	rows := env{all: e.all, named: e.all}
	switch {
	case kind == api.TyInt && m.rnd.Intn(3) == 0:
		return agg("count")
	case kind == api.TyInt && m.rnd.Intn(3) == 0:
		return agg("count", m.expr(rows, m.kind(), deep-1))
	case kind == api.TyInt && m.rnd.Intn(3) == 0:
		return agg("sum", m.expr(rows, m.near(kind), deep-1))
	}
	return agg(pick(m, "min", "max"), m.expr(rows, kind, deep-1))
}

func (m *maker) truth(part func(kind int) api.Expr, deep int) api.Expr {
	other := m.kind()
	switch m.rnd.Intn(6) {
	case 0:
		return not(part(m.near(api.TyBool)))
	case 1:
		return is(m.rnd.Intn(2), part(other))
	case 2:
		return bin(part(m.near(api.TyBool)), pick(m, "or", "and"), part(m.near(api.TyBool)))
	case 3:
		return exists(m.query(numbered(1+m.rnd.Intn(2), func(int) int { return m.kind() }), deep-1))
	case 4:
		return in(m.rnd.Intn(2), part(other), m.query(one(m.near(other)), deep-1))
	}
	return bin(part(other), pick(m, "=", "<>", "<", "<=", ">", ">="), part(m.near(other)))
}

// query makes one whose columns have these types.
func (m *maker) query(kinds []int, deep int) api.Query {
	names := numbered(len(kinds), func(i int) string {
		m.count++
		if m.slip() {
			return pick(m, "i1", "s1", "x")
		}
		return fmt.Sprint(letters[kinds[i]:][:1], "q", m.count)
	})
	return m.named(names, kinds, deep)
}

func (m *maker) named(names []string, kinds []int, deep int) api.Query {
	if deep <= 1 || m.rnd.Intn(5) > 0 {
		return m.selected(names, kinds, deep)
	}
	a, b := slices.Clone(kinds), slices.Clone(kinds)
	for i := range kinds {
		switch m.rnd.Intn(8) {
		case 0:
			a[i] = api.TyNull
		case 1:
			b[i] = api.TyNull
		}
	}
	if m.slip() {
		b = append(b, m.kind())
	}
	return put(2+m.rnd.Intn(4), m.named(names, a, deep-1), m.query(b, deep-1))
}

func (m *maker) selected(names []string, kinds []int, deep int) api.Query {
	q := api.Query{Kind: api.QuSelect, Limit: pick(m, -1, -1, 0, 5), Distinct: m.rnd.Intn(4) == 0}
	var e env
	if m.rnd.Intn(8) > 0 {
		q.From = make([]api.From, 1)
		q.From[0], e.all = m.from(deep)
	}
	e.named = e.all
	if m.rnd.Intn(3) == 0 {
		q.Where = one(m.expr(e, m.near(api.TyBool), deep-1))
	}
	if m.rnd.Intn(3) == 0 {
		e.groups, e.named = true, nil
		for range m.rnd.Intn(3) {
			if len(e.all) > 0 {
				p := pick(m, e.all...)
				q.Group, e.named = append(q.Group, m.name(e, p)), append(e.named, p)
			}
		}
		if m.slip() {
			q.Group = append(q.Group, m.wrong(e))
		}
	}
	var cols env
	for i, kind := range kinds {
		x := m.expr(e, kind, deep)
		if e.groups && len(q.Group) == 0 && i == 0 { // so that it is grouped
			x = m.gathered(e, kind, deep)
		}
		q.Items = append(q.Items, api.Item{E: x, Name: names[i]})
		if cols.all = append(cols.all, api.Place{Name: names[i], Type: kind}); letterType(names[i]) == kind { // of the first of two queries it may be null
			cols.named = append(cols.named, api.Place{Name: names[i], Type: kind})
		}
	}
	if len(q.Group) > 0 && m.rnd.Intn(2) == 0 {
		q.Having = one(m.expr(e, m.near(api.TyBool), deep-1))
	}
	for range max(0, m.rnd.Intn(5)-2) {
		q.Order = append(q.Order, api.Key{E: m.expr(cols, m.kind(), deep-1), Desc: m.rnd.Intn(2) == 0})
	}
	return q
}

// from makes what rows come from, and tells the places of these.
func (m *maker) from(deep int) (api.From, []api.Place) {
	f, places := m.single(deep)
	for range max(0, m.rnd.Intn(5)-2) {
		g, more := m.single(deep)
		both := slices.Concat(places, more)
		e := env{all: both, named: both}
		f, places = join(pick(m, api.FrJoin, api.FrLeft), f, g, m.expr(e, m.near(api.TyBool), min(deep-1, 2))), both
	}
	return f, places
}

func (m *maker) single(deep int) (api.From, []api.Place) {
	m.count++
	as := fmt.Sprint("f", m.count)
	if m.slip() {
		as = pick(m, "t", "u")
	}
	var places []api.Place
	if deep > 1 && m.rnd.Intn(3) == 0 {
		q := m.query(numbered(1+m.rnd.Intn(3), func(int) int { return m.kind() }), deep-1)
		for head := q; ; head = head.Kids[0] {
			if head.Kind != api.QuSelect {
				continue
			}
			for _, i := range head.Items {
				places = append(places, api.Place{T: as, Name: i.Name, Type: max(0, letterType(i.Name))})
			}
			return fromQuery(q, as), places
		}
	}
	x := m.s.Tables[m.rnd.Intn(3)]
	for _, c := range x.Cols {
		places = append(places, api.Place{T: as, Name: c.Name, Type: c.Type})
	}
	f := table(x.Name, as)
	f.Visible = m.rnd.Intn(3) == 0
	if m.slip() {
		f.Table = pick(m, "nosuch", "wide", "most")
	}
	return f, places
}
