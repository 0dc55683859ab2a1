package algebra_test

import (
	"fmt"
	"math/rand"
	"slices"
	"testing"

	"cordon/algebra"
	"cordon/api"
)

// maker makes expressions and queries at random, that have types but for slips. A column's name begins with a letter of its type.
type maker struct {
	rnd   *rand.Rand
	s     api.Schema
	slips int // one in so many parts is wrong; 0: none
	count int
}

func ourMaker(seed int64, slips int) *maker {
	return &maker{rnd: rand.New(rand.NewSource(seed)), s: ours().s, slips: slips}
}

const letters = "nbis" // by type

func pick[T any](rnd *rand.Rand, l ...T) T { return l[rnd.Intn(len(l))] }

func (m *maker) slip() bool { return m.slips > 0 && m.rnd.Intn(m.slips) == 0 }

func (m *maker) kind() int { return m.rnd.Intn(4) }

func (m *maker) kinds(most int) []int {
	return numbered(1+m.rnd.Intn(most), func(int) int { return m.kind() })
}

// near is a type, or null now and then.
func (m *maker) near(kind int) int { return pick(m.rnd, kind, kind, kind, api.TyNull) }

// env is where an expression is made: all places, those that may be named, and whether things may be gathered there.
type env struct {
	all, named []api.Place
	groups     bool
}

// name is how a place is named: by its T where it must be.
func (m *maker) name(e env, p api.Place) api.Expr {
	alone := 0
	for _, o := range e.all {
		if o.Name == p.Name {
			alone++
		}
	}
	if p.T == "" || alone == 1 && m.rnd.Intn(2) == 0 {
		return col(p.Name)
	}
	return colOf(p.T, p.Name)
}

func (m *maker) small(e env, kind int) api.Expr {
	found := slices.DeleteFunc(slices.Clone(e.named), func(p api.Place) bool { return p.Type != kind })
	switch {
	case len(found) > 0 && m.rnd.Intn(4) > 0:
		return m.name(e, pick(m.rnd, found...))
	case m.rnd.Intn(4) == 0:
		return variable(letters[kind:][:1])
	}
	return one(null(), api.Expr{Kind: api.ExBool, N: m.rnd.Intn(2)}, num(m.rnd.Intn(3)), text(pick(m.rnd, "", "a", "b")))[kind]
}

// expr makes one of a type, so deep at the most.
func (m *maker) expr(e env, kind, deep int) api.Expr {
	if m.slip() {
		return pick(m.rnd, col("nosuch"), variable("nosuch"), agg("count"), m.small(e, m.kind()), scalar(sel(null(), null())))
	}
	part := func(kind int) api.Expr { return m.expr(e, kind, deep-1) }
	switch {
	case deep <= 1:
		return m.small(e, kind)
	case e.groups && m.rnd.Intn(3) == 0:
		return m.gathered(e, kind, deep)
	case m.rnd.Intn(6) == 0:
		return api.Expr{Kind: api.ExCase, Kids: one(part(m.near(api.TyBool)), part(kind), part(m.near(kind)))}
	case m.rnd.Intn(8) == 0:
		return scalar(m.query(one(kind), deep-1))
	case kind == api.TyBool:
		return m.truth(part, deep)
	case kind == api.TyInt && m.rnd.Intn(3) == 0:
		return api.Expr{Kind: api.ExNeg, Kids: one(part(m.near(kind)))}
	case kind == api.TyInt:
		return bin(part(m.near(kind)), pick(m.rnd, "+", "-", "*", "/", "%"), part(m.near(kind)))
	case kind == api.TyText:
		return bin(part(m.near(kind)), "||", part(m.near(kind)))
	}
	return m.small(e, kind)
}

func (m *maker) gathered(e env, kind, deep int) api.Expr {
	rows := env{all: e.all, named: e.all}
	name := pick(m.rnd, "min", "max")
	if kind == api.TyInt {
		name = pick(m.rnd, "min", "max", "sum", "count")
	}
	if name == "count" {
		return agg(name, pick(m.rnd, nil, one(m.expr(rows, m.kind(), deep-1)))...)
	}
	return agg(name, m.expr(rows, kind, deep-1))
}

func (m *maker) truth(part func(kind int) api.Expr, deep int) api.Expr {
	other := m.kind()
	switch m.rnd.Intn(8) {
	case 0:
		return api.Expr{Kind: api.ExNot, Kids: one(part(m.near(api.TyBool)))}
	case 1:
		return api.Expr{Kind: api.ExIs, N: m.rnd.Intn(2), Kids: one(part(other))}
	case 2, 3:
		return bin(part(m.near(api.TyBool)), pick(m.rnd, "or", "and"), part(m.near(api.TyBool)))
	case 4:
		return api.Expr{Kind: api.ExExists, Q: one(m.query(m.kinds(2), deep-1))}
	case 5:
		return api.Expr{Kind: api.ExIn, N: m.rnd.Intn(2), Kids: one(part(other)), Q: one(m.query(one(m.near(other)), deep-1))}
	}
	return bin(part(other), pick(m.rnd, "=", "<>", "<", "<=", ">", ">="), part(m.near(other)))
}

// query makes one whose columns have these types, or are null.
func (m *maker) query(kinds []int, deep int) api.Query {
	names := numbered(len(kinds), func(i int) string {
		m.count++
		return fmt.Sprint(letters[kinds[i]:][:1], "q", m.count)
	})
	return m.named(names, kinds, deep)
}

func (m *maker) named(names []string, kinds []int, deep int) api.Query {
	if deep <= 1 || m.rnd.Intn(5) > 0 {
		return m.selected(names, kinds, deep)
	}
	return api.Query{Kind: 2 + m.rnd.Intn(4), Limit: -1, Kids: one(m.named(names, kinds, deep-1), m.query(kinds, deep-1))}
}

func (m *maker) selected(names []string, kinds []int, deep int) api.Query {
	q := api.Query{Kind: api.QuSelect, Limit: pick(m.rnd, -1, -1, 0, 1, 5), Distinct: m.rnd.Intn(4) == 0}
	var e env
	if m.rnd.Intn(8) > 0 {
		q.From = make([]api.From, 1)
		q.From[0], e.all = m.from(deep)
	}
	e.named = e.all
	if m.rnd.Intn(2) == 0 {
		q.Where = one(m.expr(e, m.near(api.TyBool), deep))
	}
	if m.rnd.Intn(3) == 0 {
		e.groups, e.named = true, nil
		for range m.rnd.Intn(4) {
			if len(e.all) > 0 {
				p := pick(m.rnd, e.all...)
				q.Group, e.named = append(q.Group, m.name(e, p)), append(e.named, p)
			}
		}
	}
	var cols env
	for i, kind := range kinds {
		x := m.expr(e, kind, deep)
		if e.groups && len(q.Group) == 0 && i == 0 { // so that it is grouped
			x = m.gathered(e, kind, deep)
		}
		q.Items = append(q.Items, api.Item{E: x, Name: names[i]})
		cols.all = append(cols.all, api.Place{Name: names[i], Type: kind})
	}
	cols.named = cols.all
	if len(q.Group) > 0 && m.rnd.Intn(2) == 0 {
		q.Having = one(m.expr(e, m.near(api.TyBool), deep))
	}
	for range max(0, m.rnd.Intn(5)-2) {
		q.Order = append(q.Order, api.Key{E: m.expr(cols, m.kind(), deep-1), Desc: m.rnd.Intn(2) == 0})
	}
	return q
}

// from makes what rows come from, and tells the places of these.
func (m *maker) from(deep int) (api.From, []api.Place) {
	f, places := m.single(deep)
	for range max(0, m.rnd.Intn(5)-2) {
		g, more := m.single(deep)
		places = slices.Concat(places, more)
		on := m.expr(env{all: places, named: places}, m.near(api.TyBool), min(deep, 2))
		f = api.From{Kind: pick(m.rnd, api.FrJoin, api.FrJoin, api.FrLeft), Kids: one(f, g), On: one(on)}
	}
	return f, places
}

func (m *maker) single(deep int) (api.From, []api.Place) {
	m.count++
	as := fmt.Sprint("f", m.count)
	var places []api.Place
	if deep > 1 && m.rnd.Intn(3) == 0 {
		kinds := m.kinds(3)
		q := m.query(kinds, deep-1)
		for i, item := range head(q).Items {
			places = append(places, api.Place{T: as, Name: item.Name, Type: kinds[i]})
		}
		return api.From{Kind: api.FrQuery, As: as, Q: one(q)}, places
	}
	x := m.s.Tables[m.rnd.Intn(len(m.s.Tables))]
	for _, c := range x.Cols {
		places = append(places, api.Place{T: as, Name: c.Name, Type: c.Type})
	}
	f := table(x.Name, as)
	f.Visible = m.rnd.Intn(3) == 0
	return f, places
}

// P10.1, of expressions and queries made at random, right ones and others: what the second way writes, or types' error; and the answer shares no memory with what is handed in.
func TestMade(t *testing.T) {
	w, right, wrong := ours(), 0, 0
	note := func(is bool) {
		if is {
			right++
		} else {
			wrong++
		}
	}
	for _, slips := range []int{0, 100, 20} {
		m := ourMaker(10, slips)
		for range 4000 {
			x := m.expr(env{all: w.cols, named: w.cols[:4]}, m.kind(), 1+m.rnd.Intn(4))
			note(nodeHolds(t, w, x))
			q := m.query(m.kinds(3), 1+m.rnd.Intn(4))
			note(planHolds(t, w, q))
			if t.Failed() {
				return
			}
		}
		if slips == 0 && wrong > 40 { // too long a text, or too many columns, may be made
			t.Errorf("%d are wrong without slips", wrong)
		}
	}
	if right < 10000 || wrong < 2000 {
		t.Errorf("%d are right, %d wrong", right, wrong)
	}
}

// Rules 3 and 5, and P2: what is handed in stays as it is, what is handed out is new memory, empty lists are as nil, and no call changes what another one answers.
func TestMadeStandAlone(t *testing.T) {
	w, m := ours(), ourMaker(11, 300)
	for range 1500 {
		x := m.expr(env{all: w.cols, named: w.cols[:4]}, m.kind(), 1+m.rnd.Intn(4))
		q := m.query(m.kinds(3), 1+m.rnd.Intn(3))
		keptX, keptQ := copied(x), copied(q)
		n, errN := algebra.Node(w.c, w.vars, w.cols, x)
		p, errP := algebra.Plan(w.c, w.vars, q)
		toldN, toldP := nodeAnswer(n, errN), planAnswer(p, errP)
		if !ownMemory(n, x, w.vars, w.cols) || !ownMemory(p, q, w.vars) {
			t.Fatalf("memory is shared: %s, %s", toldN, toldP)
		}
		algebra.Plan(w.c, nil, sel(col("nosuch")))
		algebra.Node(nil, nil, nil, x)
		if got := nodeAnswer(algebra.Node(w.c, emptied(w.vars), w.cols, emptied(x))); got != toldN {
			t.Fatalf("%s, and %s ahead", got, toldN)
		}
		if got := planAnswer(algebra.Plan(w.c, w.vars, emptied(q))); got != toldP {
			t.Fatalf("%s, and %s ahead", got, toldP)
		}
		if !same(x, keptX) || !same(q, keptQ) || !same(w.vars, ourVars()) || !same(w.cols, ourPlaces()) {
			t.Fatalf("what is handed in is changed: %s, %s", toldN, toldP)
		}
	}
	if !same(w.c.Tables(), worldOf(ourSchema(), nil, nil).c.Tables()) {
		t.Error("the catalog is changed")
	}
}
