package labels_test

import (
	"fmt"
	"math/rand"
	"slices"
	"strings"
	"testing"

	"cordon/algebra"
	"cordon/api"
	"cordon/schema"
)

// lattices: of one level, of two, of levels that stand beside one another, and such where Bottom is not the first.
func lattices() []api.Schema {
	of := func(levels string, edges ...string) api.Schema {
		return api.Schema{Levels: strings.Fields(levels), Edges: numbered(len(edges), func(i int) api.Pair {
			two := strings.Fields(edges[i])
			return api.Pair{Low: two[0], High: two[1]}
		})}
	}
	return one(
		of("one"), of("low high", "low high"), of("high low", "low high"), of("b c a d", "a b", "b c", "c d"),
		of("low a b high", "low a", "low b", "a high", "b high"), of("a high low b", "low a", "low b", "a high", "b high"),
		of("a b c high low", "low a", "low b", "low c", "a high", "b high", "c high"), of("top x y z o", "o x", "x y", "o z", "y top", "z top"),
	)
}

// tables are those over which queries are made, without levels. A column's name begins with a letter of its type; i1 stands in two tables.
func tables() []api.Table {
	of := func(name, cols string) api.Table {
		names := strings.Fields(cols)
		return api.Table{Name: name, Cols: numbered(len(names), func(i int) api.Col {
			return api.Col{Name: names[i], Type: strings.IndexByte(letters, names[i][0]), Null: true}
		})}
	}
	return one(of("t", "i1 b1 s1"), of("u", "i1 s2"), of("v", "b2 b3 i2 i3"), of("w", "s3"))
}

const letters = "nbis" // by type

func pick[T any](rnd *rand.Rand, l ...T) T { return l[rnd.Intn(len(l))] }

// world is what expressions and queries are made over: a schema, levels of variables, and of columns for expressions that stand alone.
type world struct {
	s    api.Schema
	c    *schema.Catalog
	vars []api.Named
	cols []int
}

func madeVars() []api.Var {
	return []api.Var{{Name: "n"}, {Name: "b", Type: api.TyBool}, {Name: "i", Type: api.TyInt}, {Name: "s", Type: api.TyText}, {Name: "i", Type: api.TyText}, {Name: "j", Type: api.TyInt}}
}

func madePlaces() []api.Place {
	return []api.Place{{T: "p", Name: "n", Type: api.TyNull}, {T: "p", Name: "b", Type: api.TyBool}, {T: "p", Name: "i", Type: api.TyInt}, {T: "p", Name: "s", Type: api.TyText}, {T: "q", Name: "i", Type: api.TyInt}}
}

// maker makes worlds, and expressions and queries that have types.
type maker struct {
	*rand.Rand
	world
	count int
}

func makerOf(seed int) *maker { return &maker{Rand: rand.New(rand.NewSource(int64(seed)))} }

// inWorld makes a world whose levels are some of those of a lattice.
func (m *maker) inWorld(s api.Schema, levels ...string) {
	s.Tables = tables()
	for i := range s.Tables {
		t := &s.Tables[i]
		t.Rows = pick(m.Rand, levels...)
		for j := range t.Cols {
			t.Cols[j].Level = pick(m.Rand, levels...)
		}
		if hide := pick(m.Rand, levels...); m.Intn(2) == 0 && stands(s, t.Rows, hide) {
			t.Hide, t.When = hide, one(api.Expr{Kind: api.ExBool, N: 1})
		}
	}
	m.world = world{s: s, c: catalogFrom(s)}
	level := func() int { return levelOf(m.c, pick(m.Rand, levels...)) }
	for _, name := range []string{"n", "b", "i", "s", "i", "z"} { // j is not there, z is nobody's
		m.vars = append(m.vars, api.Named{Name: name, Level: level()})
	}
	m.cols = numbered(len(madePlaces()), func(int) int { return level() })
}

// anyWorld makes a world of a lattice of any kind. Bottom comes more often than others, as it does not hide what else is in something.
func (m *maker) anyWorld() *maker {
	s := pick(m.Rand, lattices()...)
	levels := slices.Clone(s.Levels)
	for range m.Intn(2 * len(levels)) {
		levels = append(levels, bottomOf(s))
	}
	m.inWorld(s, levels...)
	return m
}

func bottomOf(s api.Schema) string {
	c := catalogFrom(s)
	return nameOf(c, c.Lattice().Bottom())
}

// stands tells whether a level stands below another one.
func stands(s api.Schema, low, high string) bool {
	s.Tables = nil
	c := catalogFrom(s)
	return c.Lattice().Leq(levelOf(c, low), levelOf(c, high))
}

func (m *maker) kind() int { return m.Intn(4) }

func (m *maker) kinds(most int) []int {
	return numbered(1+m.Intn(most), func(int) int { return m.kind() })
}

// near is a type, or null now and then.
func (m *maker) near(kind int) int { return pick(m.Rand, kind, kind, kind, kind, api.TyNull) }

// env is where an expression is made: all places, those that may be named, and whether things may be gathered there.
type env struct {
	all, named []api.Place
	groups     bool
}

func (m *maker) name(e env, p api.Place) api.Expr {
	alone := 0
	for _, o := range e.all {
		if o.Name == p.Name {
			alone++
		}
	}
	x := api.Expr{Kind: api.ExCol, S: p.Name, T: p.T}
	if alone == 1 && m.Intn(2) == 0 {
		x.T = ""
	}
	return x
}

func (m *maker) small(e env, kind int) api.Expr {
	found := slices.DeleteFunc(slices.Clone(e.named), func(p api.Place) bool { return p.Type != kind })
	switch {
	case len(found) > 0 && m.Intn(4) > 0:
		return m.name(e, pick(m.Rand, found...))
	case m.Intn(3) == 0:
		return api.Expr{Kind: api.ExVar, S: letters[kind:][:1]}
	case kind == api.TyInt && m.Intn(10) == 0:
		return api.Expr{Kind: api.ExVar, S: "j"}
	}
	return one(api.Expr{Kind: api.ExNull}, api.Expr{Kind: api.ExBool, N: m.Intn(2)}, api.Expr{Kind: api.ExInt, N: m.Intn(3)}, api.Expr{Kind: api.ExText, S: "x"})[kind]
}

// expr makes one of a type, so deep at the most.
func (m *maker) expr(e env, kind, deep int) api.Expr {
	part := func(kind int) api.Expr { return m.expr(e, kind, deep-1) }
	switch {
	case deep <= 1:
		return m.small(e, kind)
	case e.groups && m.Intn(3) == 0:
		return m.gathered(e, kind, deep)
	case m.Intn(6) == 0:
		return api.Expr{Kind: api.ExCase, Kids: one(part(m.near(api.TyBool)), part(kind), part(m.near(kind)))}
	case m.Intn(8) == 0:
		return api.Expr{Kind: api.ExScalar, Q: one(m.query(one(kind), deep-1))}
	case kind == api.TyBool:
		return m.truth(part, deep)
	case m.Intn(3) == 0:
		return m.small(e, kind)
	case kind == api.TyInt && m.Intn(3) == 0:
		return api.Expr{Kind: api.ExNeg, Kids: one(part(m.near(kind)))}
	case kind == api.TyInt:
		return api.Expr{Kind: api.ExBin, S: pick(m.Rand, "+", "-", "*", "/", "%"), Kids: one(part(m.near(kind)), part(m.near(kind)))}
	case kind == api.TyText:
		return api.Expr{Kind: api.ExBin, S: "||", Kids: one(part(m.near(kind)), part(m.near(kind)))}
	}
	return m.small(e, kind)
}

func (m *maker) gathered(e env, kind, deep int) api.Expr {
	rows := env{all: e.all, named: e.all}
	x := api.Expr{Kind: api.ExAgg, S: pick(m.Rand, "min", "max")}
	if kind == api.TyInt {
		x.S = pick(m.Rand, "min", "max", "sum", "sum", "count")
	}
	switch {
	case x.S == "count" && m.Intn(2) == 0:
	case x.S == "count":
		x.Kids = one(m.expr(rows, m.kind(), deep-1))
	default:
		x.Kids = one(m.expr(rows, kind, deep-1))
	}
	return x
}

func (m *maker) truth(part func(kind int) api.Expr, deep int) api.Expr {
	other := m.kind()
	switch m.Intn(8) {
	case 0:
		return api.Expr{Kind: api.ExNot, Kids: one(part(m.near(api.TyBool)))}
	case 1:
		return api.Expr{Kind: api.ExIs, N: m.Intn(2), Kids: one(part(other))}
	case 2, 3:
		return api.Expr{Kind: api.ExBin, S: pick(m.Rand, "or", "and"), Kids: one(part(m.near(api.TyBool)), part(m.near(api.TyBool)))}
	case 4:
		return api.Expr{Kind: api.ExExists, Q: one(m.query(m.kinds(2), deep-1))}
	case 5:
		return api.Expr{Kind: api.ExIn, N: m.Intn(2), Kids: one(part(other)), Q: one(m.query(one(m.near(other)), deep-1))}
	}
	return api.Expr{Kind: api.ExBin, S: pick(m.Rand, "=", "<>", "<", "<=", ">", ">="), Kids: one(part(other), part(m.near(other)))}
}

// query makes one whose columns have these types, or are null.
func (m *maker) query(kinds []int, deep int) api.Query {
	names := numbered(len(kinds), func(i int) string {
		m.count++
		return fmt.Sprint(letters[kinds[i]:][:1], "q", m.count)
	})
	if deep <= 1 || m.Intn(5) > 0 {
		return m.selected(names, kinds, deep)
	}
	return api.Query{Kind: api.QuUnion + m.Intn(4), Limit: -1, Kids: one(m.query(kinds, deep-1), m.query(kinds, deep-1))}
}

func (m *maker) selected(names []string, kinds []int, deep int) api.Query {
	q := api.Query{Kind: api.QuSelect, Limit: pick(m.Rand, -1, -1, 0, 5), Distinct: m.Intn(4) == 0}
	var e env
	if m.Intn(8) > 0 {
		q.From = make([]api.From, 1)
		q.From[0], e.all = m.from(deep)
	}
	e.named = e.all
	if m.Intn(3) == 0 {
		q.Where = one(m.expr(e, m.near(api.TyBool), deep))
	}
	if m.Intn(3) == 0 {
		e.groups, e.named = true, nil
		for range m.Intn(4) {
			if len(e.all) > 0 {
				p := pick(m.Rand, e.all...)
				q.Group, e.named = append(q.Group, m.name(e, p)), append(e.named, p)
			}
		}
	}
	var cols env
	for i, kind := range kinds {
		x := m.expr(e, kind, deep)
		if e.groups && len(q.Group) == 0 && i == 0 { // so that it is grouped
			x = m.gathered(e, kind, deep)
		}
		q.Items = append(q.Items, api.Item{E: x, Name: names[i]})
		cols.all = append(cols.all, api.Place{Name: names[i], Type: kind})
	}
	cols.named = cols.all
	if len(q.Group) > 0 && m.Intn(2) == 0 {
		q.Having = one(m.expr(e, m.near(api.TyBool), deep))
	}
	for range max(0, m.Intn(5)-2) {
		q.Order = append(q.Order, api.Key{E: m.expr(cols, m.kind(), deep-1), Desc: m.Intn(2) == 0})
	}
	return q
}

// from makes what rows come from, and tells the places of these.
func (m *maker) from(deep int) (api.From, []api.Place) {
	f, places := m.single(deep)
	for range max(0, m.Intn(5)-2) {
		g, more := m.single(deep)
		places = slices.Concat(places, more)
		on := m.expr(env{all: places, named: places}, m.near(api.TyBool), min(deep, 2))
		f = api.From{Kind: pick(m.Rand, api.FrJoin, api.FrJoin, api.FrLeft), Kids: one(f, g), On: one(on)}
	}
	return f, places
}

func (m *maker) single(deep int) (api.From, []api.Place) {
	m.count++
	as := fmt.Sprint("f", m.count)
	if deep > 1 && m.Intn(3) == 0 {
		kinds := m.kinds(3)
		q := m.query(kinds, deep-1)
		return api.From{Kind: api.FrQuery, As: as, Q: one(q)}, numbered(len(kinds), func(i int) api.Place {
			return api.Place{T: as, Name: head(q).Items[i].Name, Type: kinds[i]}
		})
	}
	of := pick(m.Rand, m.s.Tables...)
	f := api.From{Kind: api.FrTable, Table: of.Name, As: as, Visible: m.Intn(3) == 0}
	return f, numbered(len(of.Cols), func(i int) api.Place { return api.Place{T: as, Name: of.Cols[i].Name, Type: of.Cols[i].Type} })
}

// head is the query whose names a query has.
func head(q api.Query) api.Query {
	for q.Kind != api.QuSelect {
		q = q.Kids[0]
	}
	return q
}

// made is an expression and a query with node and plan; there are none now and then, as something is too long, or too wide.
type made struct {
	x api.Expr
	n api.Node
	q api.Query
	p api.Plan
}

func (m *maker) made() (made, bool) {
	places := madePlaces()
	out := made{x: m.expr(env{all: places, named: places}, m.kind(), 1+m.Intn(4)), q: m.query(m.kinds(3), 1+m.Intn(4))}
	var errX, errQ api.Errno
	out.n, errX = algebra.Node(m.c, madeVars(), places, out.x)
	out.p, errQ = algebra.Plan(m.c, madeVars(), out.q)
	return out, errX == api.OK && errQ == api.OK
}

// madeIn hands each of so many things, made in worlds of any kind, to a test.
func madeIn(t *testing.T, from, n int, try func(m *maker, x made)) {
	t.Helper()
	for seed := from; seed < from+n; seed++ {
		m := makerOf(seed).anyWorld()
		if x, ok := m.made(); ok {
			try(m, x)
		}
		if t.Failed() {
			t.Fatalf("seed %d", seed)
		}
	}
}

// enough looks whether each of some things came often enough.
func enough(t *testing.T, got map[string]int, least int, names ...string) {
	t.Helper()
	for _, name := range names {
		if got[name] < least {
			t.Errorf("%s came %d times, of %v", name, got[name], got)
		}
	}
}
