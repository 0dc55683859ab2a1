package derive_test

import (
	"fmt"
	"math/rand"
	"slices"
	"strings"
	"testing"

	"cordon/api"
	"cordon/change"
	"cordon/schema"
	"cordon/script"
)

// lattices: of one level, of two, of levels that stand beside one another, and such where Bottom is not the first.
func lattices() []api.Schema {
	of := func(levels string, edges ...string) api.Schema {
		return api.Schema{Levels: strings.Fields(levels), Edges: numbered(len(edges), func(i int) api.Pair {
			two := strings.Fields(edges[i])
			return api.Pair{Low: two[0], High: two[1]}
		})}
	}
	return one(
		of("one"), of("low high", "low high"), of("high low", "low high"), of("b c a d", "a b", "b c", "c d"),
		of("low a b high", "low a", "low b", "a high", "b high"), of("a high low b", "low a", "low b", "a high", "b high"),
		of("a b c high low", "low a", "low b", "low c", "a high", "b high", "c high"), of("top x y z o", "o x", "x y", "o z", "y top", "z top"),
	)
}

// maker makes schemas, and scripts over them that are right. Each statement has a place of its own.
type maker struct {
	*rand.Rand
	s      api.Schema
	c      *schema.Catalog
	tables []api.Relation
	procs  []api.Proc
	vars   []api.Var // what is seen where something is made
	count  int
}

func pick[T any](m *maker, l ...T) T { return l[m.Intn(len(l))] }

func (m *maker) often(percent int) bool { return m.Intn(100) < percent }

// makerOf makes a schema of a lattice of any kind.
func makerOf(seed int) *maker {
	m := &maker{Rand: rand.New(rand.NewSource(int64(seed)))}
	s := pick(m, lattices()...)
	m.schema(s, m.often(50))
	return m
}

// schema makes tables and channels. Bottom comes more often than other levels, as it does not hide what else is in something; of tame ones that are written to what is high comes more often, and in channels, so that more may flow.
func (m *maker) schema(s api.Schema, tame bool) {
	low, high := catalogFrom(s).Lattice().Bottom(), catalogFrom(s).Lattice().Top()
	level := func() string {
		if m.often(40) {
			return s.Levels[low]
		}
		return pick(m, s.Levels...)
	}
	for _, i := range m.Perm(4)[:2+m.Intn(3)] {
		s.Tables = append(s.Tables, m.table(catalogFrom(api.Schema{Levels: s.Levels, Edges: s.Edges}), one("t", "u", "v", "w")[i], level))
	}
	for _, i := range m.Perm(4)[:1+m.Intn(4)] {
		to := pick(m, s.Levels...)
		if tame {
			to = s.Levels[high]
		}
		s.Channels = append(s.Channels, api.Pair{Low: one("out", "log", "err", "aux")[i], High: to})
	}
	m.s, m.c = s, catalogFrom(s)
	m.tables = m.c.Tables()
}

// kind is a type that variables and columns may have.
func (m *maker) kind() int { return pick(m, api.TyBool, api.TyInt, api.TyInt, api.TyInt, api.TyText) }

func (m *maker) table(of *schema.Catalog, name string, level func() string) api.Table {
	l := of.Lattice()
	t := api.Table{Name: name, Rows: level()}
	var fit []string // columns that may stand in a key, or a predicate
	for _, i := range m.Perm(4)[:1+m.Intn(4)] {
		c := api.Col{Name: one("a", "b", "c", "d")[i], Type: m.kind(), Null: m.often(50), Level: level()}
		if m.often(40) {
			c.Level = t.Rows
		}
		if l.Leq(levelOf(of, c.Level), levelOf(of, t.Rows)) {
			fit = append(fit, c.Name)
		}
		t.Cols = append(t.Cols, c)
	}
	if len(fit) > 0 && m.often(50) {
		for _, i := range m.Perm(len(fit))[:1+m.Intn(min(2, len(fit)))] {
			t.Key = append(t.Key, fit[i])
		}
	}
	if m.often(40) {
		t.Hide, t.When = nameOf(of, pick(m, l.Above(levelOf(of, t.Rows))...)), one(api.Expr{Kind: api.ExBool, N: m.Intn(2)})
		if len(fit) > 0 {
			t.When = one(api.Expr{Kind: api.ExIs, N: m.Intn(2), Kids: one(api.Expr{Kind: api.ExCol, S: pick(m, fit...)})})
		}
	}
	return t
}

// named are variables of some names, in any order.
func (m *maker) named(least int, names ...string) []api.Var {
	order := m.Perm(len(names))
	return numbered(least+m.Intn(len(names)+1-least), func(i int) api.Var { return api.Var{Name: names[order[i]], Type: m.kind()} })
}

func (m *maker) script() api.Script {
	s := api.Script{Vars: m.named(3, "a", "b", "c", "d", "e", "f")}
	s.Procs = numbered(m.Intn(4), func(i int) api.Proc {
		return api.Proc{Name: one("p", "q", "t")[i], Params: m.named(0, "a", "b", "c"), Vars: m.named(0, "d", "e", "g")}
	})
	m.procs = s.Procs
	for i, p := range s.Procs {
		m.vars = slices.Concat(p.Params, p.Vars)
		s.Procs[i].Body = m.block(2)
	}
	m.vars = s.Vars
	s.Body = append(m.block(3), m.block(2)...)
	return s
}

func (m *maker) block(deep int) []api.Stmt {
	return numbered(1+m.Intn(2+deep), func(int) api.Stmt { return m.stmt(deep) })
}

// variable is the name of one that is seen, of a type.
func (m *maker) variable(kind int) string {
	such := slices.DeleteFunc(slices.Clone(m.vars), func(v api.Var) bool { return v.Type != kind })
	if len(such) == 0 {
		return ""
	}
	return pick(m, such...).Name
}

// stmt makes a statement; skip, if there is nothing of which the one that is meant can be made.
func (m *maker) stmt(deep int) api.Stmt {
	m.count++
	s := api.Stmt{Kind: 1 + m.Intn(17), At: m.count}
	if deep <= 1 && slices.Contains(one(api.StIf, api.StWhile, api.StFor, api.StTry), s.Kind) || m.often(10) {
		s.Kind = pick(m, api.StSet, api.StPrint)
	}
	switch s.Kind {
	case api.StSet, api.StInput:
		m.toVariable(&s)
	case api.StFor:
		m.toMany(&s)
	case api.StIf, api.StWhile:
		s.E = one(m.expr(env{}, api.TyBool, 1+m.Intn(3)))
	case api.StPrint:
		s.Table, s.E = pick(m, m.s.Channels...).Low, one(m.expr(env{}, m.Intn(4), 1+m.Intn(3)))
	case api.StCall:
		m.toProc(&s)
	case api.StInsert, api.StInsertQ, api.StUpdate, api.StDelete:
		m.toTable(&s)
	}
	switch s.Kind {
	case api.StIf, api.StWhile, api.StFor, api.StTry:
		s.Body = m.block(deep - 1)
	}
	if s.Kind == api.StTry || s.Kind == api.StIf && m.often(50) {
		s.Else = m.block(deep - 1)
	}
	return s
}

func skip(s *api.Stmt) { *s = api.Stmt{Kind: api.StSkip, At: s.At} }

func (m *maker) toVariable(s *api.Stmt) {
	kind := api.TyInt
	if s.Kind == api.StSet {
		kind = m.kind()
	}
	name := m.variable(kind)
	if name == "" {
		skip(s)
		return
	}
	s.Names = one(name)
	if s.Kind == api.StSet {
		s.E = one(m.expr(env{}, kind, 1+m.Intn(3)))
	}
}

func (m *maker) toMany(s *api.Stmt) {
	var kinds []int
	for _, i := range m.Perm(len(m.vars))[:min(len(m.vars), 1+m.Intn(3))] {
		s.Names, kinds = append(s.Names, m.vars[i].Name), append(kinds, m.vars[i].Type)
	}
	if len(s.Names) == 0 {
		skip(s)
		return
	}
	s.Q = one(m.query(kinds, 1+m.Intn(2)))
}

func (m *maker) toProc(s *api.Stmt) {
	if len(m.procs) == 0 {
		skip(s)
		return
	}
	of := pick(m, m.procs...)
	s.Table = of.Name
	s.E = numbered(len(of.Params), func(i int) api.Expr { return m.expr(env{}, of.Params[i].Type, 1+m.Intn(3)) })
}

func (m *maker) toTable(s *api.Stmt) {
	of := pick(m, m.tables...)
	s.Table = of.Name
	kinds := numbered(len(of.Cols), func(i int) int { return of.Cols[i].Type })
	cols := env{all: placesOf(of), named: placesOf(of)}
	switch s.Kind {
	case api.StInsert:
		s.E = numbered(len(kinds), func(i int) api.Expr { return m.expr(env{}, kinds[i], 1+m.Intn(2)) })
	case api.StInsertQ:
		s.Q = one(m.query(kinds, 1+m.Intn(2)))
	case api.StUpdate:
		for _, i := range m.Perm(len(of.Cols)) {
			if !slices.Contains(change.Fixed(of), i) && m.often(70) {
				s.Names, s.E = append(s.Names, of.Cols[i].Name), append(s.E, m.expr(cols, kinds[i], 1+m.Intn(3)))
			}
		}
		if len(s.Names) == 0 {
			skip(s)
			return
		}
		fallthrough
	case api.StDelete:
		if m.often(60) {
			s.Where = one(m.expr(cols, api.TyBool, 1+m.Intn(3)))
		}
	}
}

func placesOf(r api.Relation) []api.Place {
	return numbered(len(r.Cols), func(i int) api.Place { return api.Place{T: r.Name, Name: r.Cols[i].Name, Type: r.Cols[i].Type} })
}

// env is where an expression is made: all places, those that may be named, and whether things may be gathered there.
type env struct {
	all, named []api.Place
	groups     bool
}

func (m *maker) name(e env, p api.Place) api.Expr {
	alone := 0
	for _, o := range e.all {
		if o.Name == p.Name {
			alone++
		}
	}
	x := api.Expr{Kind: api.ExCol, S: p.Name, T: p.T}
	if alone == 1 && m.often(50) {
		x.T = ""
	}
	return x
}

func (m *maker) leaf(e env, kind int) api.Expr {
	found := slices.DeleteFunc(slices.Clone(e.named), func(p api.Place) bool { return p.Type != kind })
	if len(found) > 0 && m.often(70) {
		return m.name(e, pick(m, found...))
	}
	if name := m.variable(kind); name != "" && m.often(50) {
		return api.Expr{Kind: api.ExVar, S: name}
	}
	if m.often(8) {
		kind = api.TyNull
	}
	return one(api.Expr{Kind: api.ExNull}, api.Expr{Kind: api.ExBool, N: m.Intn(2)}, api.Expr{Kind: api.ExInt, N: m.Intn(4)}, api.Expr{Kind: api.ExText, S: pick(m, "", "a")})[kind]
}

// expr makes one of a type, so deep at the most.
func (m *maker) expr(e env, kind, deep int) api.Expr {
	part := func(kind int) api.Expr { return m.expr(e, kind, deep-1) }
	bin := func(marks ...string) api.Expr {
		return api.Expr{Kind: api.ExBin, S: pick(m, marks...), Kids: one(part(kind), part(kind))}
	}
	switch {
	case e.groups && deep > 1 && kind != api.TyNull && m.often(40):
		return m.gathered(e, kind, deep)
	case deep <= 1 || m.often(25):
		return m.leaf(e, kind)
	case m.often(12):
		return api.Expr{Kind: api.ExCase, Kids: one(part(api.TyBool), part(kind), part(kind))}
	case m.often(8):
		return api.Expr{Kind: api.ExScalar, Q: one(m.query(one(kind), deep-1))}
	case kind == api.TyBool:
		return m.truth(part, deep)
	case m.often(50):
		return m.leaf(e, kind)
	case kind == api.TyInt && m.often(30):
		return api.Expr{Kind: api.ExNeg, Kids: one(part(kind))}
	case kind == api.TyInt:
		return bin("+", "-", "*", "/", "%")
	case kind == api.TyText:
		return bin("||")
	}
	return m.leaf(e, kind)
}

func (m *maker) gathered(e env, kind, deep int) api.Expr {
	rows := env{all: e.all, named: e.all}
	x := api.Expr{Kind: api.ExAgg, S: pick(m, "min", "max")}
	if kind == api.TyInt {
		x.S = pick(m, "min", "sum", "count", "count")
	}
	switch {
	case x.S == "count" && m.often(50):
	case x.S == "count":
		x.Kids = one(m.expr(rows, m.kind(), deep-1))
	default:
		x.Kids = one(m.expr(rows, kind, deep-1))
	}
	return x
}

func (m *maker) truth(part func(kind int) api.Expr, deep int) api.Expr {
	of := m.kind()
	switch m.Intn(7) {
	case 0:
		return api.Expr{Kind: api.ExNot, Kids: one(part(api.TyBool))}
	case 1:
		return api.Expr{Kind: api.ExIs, N: m.Intn(2), Kids: one(part(of))}
	case 2:
		return api.Expr{Kind: api.ExBin, S: pick(m, "or", "and"), Kids: one(part(api.TyBool), part(api.TyBool))}
	case 3:
		return api.Expr{Kind: api.ExExists, Q: one(m.query(one(of), deep-1))}
	case 4:
		return api.Expr{Kind: api.ExIn, N: m.Intn(2), Kids: one(part(of)), Q: one(m.query(one(of), deep-1))}
	}
	return api.Expr{Kind: api.ExBin, S: pick(m, "=", "<>", "<", "<=", ">", ">="), Kids: one(part(of), part(of))}
}

// query makes one whose columns have these types, or are null.
func (m *maker) query(kinds []int, deep int) api.Query {
	if deep > 1 && m.often(20) {
		return api.Query{Kind: api.QuUnion + m.Intn(4), Limit: -1, Kids: one(m.query(kinds, deep-1), m.query(kinds, deep-1))}
	}
	q := api.Query{Kind: api.QuSelect, Limit: pick(m, -1, -1, -1, 2), Distinct: m.often(20)}
	var e env
	if m.often(85) {
		q.From = make([]api.From, 1)
		q.From[0], e.all = m.from(deep)
	}
	e.named = e.all
	if m.often(30) {
		q.Where = one(m.expr(e, api.TyBool, deep))
	}
	if m.often(20) {
		m.grouped(&q, &e)
	}
	var cols env
	for i, kind := range kinds {
		m.count++
		x := m.expr(e, kind, deep)
		if e.groups && len(q.Group) == 0 && i == 0 { // so that it is grouped
			x = api.Expr{Kind: api.ExAgg, S: "max", Kids: one(m.leaf(env{all: e.all, named: e.all}, kind))}
		}
		q.Items = append(q.Items, api.Item{E: x, Name: fmt.Sprint("x", m.count)})
		cols.all = append(cols.all, api.Place{Name: q.Items[i].Name, Type: kind})
	}
	cols.named = cols.all
	if len(q.Group) > 0 && m.often(40) {
		q.Having = one(m.expr(e, api.TyBool, deep))
	}
	if m.often(20) {
		q.Order = one(api.Key{E: m.expr(cols, m.kind(), deep-1), Desc: m.often(50)})
	}
	return q
}

func (m *maker) grouped(q *api.Query, e *env) {
	e.groups, e.named = true, nil
	for range m.Intn(3) {
		if len(e.all) > 0 {
			p := pick(m, e.all...)
			q.Group, e.named = append(q.Group, m.name(*e, p)), append(e.named, p)
		}
	}
}

// from makes what rows come from, and tells the places of these.
func (m *maker) from(deep int) (api.From, []api.Place) {
	f, places := m.single(deep)
	for m.often(20) {
		g, more := m.single(deep)
		places = slices.Concat(places, more)
		on := m.expr(env{all: places, named: places}, api.TyBool, min(deep, 2))
		f = api.From{Kind: pick(m, api.FrJoin, api.FrLeft), Kids: one(f, g), On: one(on)}
	}
	return f, places
}

func (m *maker) single(deep int) (api.From, []api.Place) {
	m.count++
	as := fmt.Sprint("f", m.count)
	if deep > 1 && m.often(20) {
		kinds := numbered(1+m.Intn(2), func(int) int { return m.kind() })
		q := m.query(kinds, deep-1)
		return api.From{Kind: api.FrQuery, As: as, Q: one(q)}, numbered(len(kinds), func(i int) api.Place {
			return api.Place{T: as, Name: head(q).Items[i].Name, Type: kinds[i]}
		})
	}
	of := pick(m, m.tables...)
	f := api.From{Kind: api.FrTable, Table: of.Name, As: as, Visible: m.often(30)}
	return f, numbered(len(of.Cols), func(i int) api.Place { return api.Place{T: as, Name: of.Cols[i].Name, Type: of.Cols[i].Type} })
}

// head is the query whose names a query has.
func head(q api.Query) api.Query {
	for q.Kind != api.QuSelect {
		q = q.Kids[0]
	}
	return q
}

// made is a script and its program.
type made struct {
	s api.Script
	p api.Program
}

// made makes one; there is none now and then, as something is null where a type is asked for, or is too long.
func (m *maker) made() (made, bool) {
	s := m.script()
	p, _, err := script.Compile(m.c, s)
	return made{s, p}, err == api.OK
}

// madeIn hands each of so many scripts, over schemas of any kind, to a test.
func madeIn(t *testing.T, from, n int, try func(m *maker, x made)) {
	t.Helper()
	came := 0
	for seed := from; seed < from+n; seed++ {
		m := makerOf(seed)
		if x, ok := m.made(); ok {
			came++
			try(m, x)
		}
		if t.Failed() {
			t.Fatalf("seed %d", seed)
		}
	}
	if came < n/2 {
		t.Errorf("just %d of %d scripts are right", came, n)
	}
}
