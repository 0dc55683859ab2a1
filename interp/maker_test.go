package interp_test

import (
	"fmt"
	"math/rand"
	"slices"
	"strings"
	"testing"

	"cordon/api"
	"cordon/change"
	"cordon/schema"
	"cordon/store"
)

// maker makes schemas, rows of their tables, and scripts over them that are right.
type maker struct {
	*rand.Rand
	catalog  *schema.Catalog
	tables   []api.Relation
	channels []api.Named
	procs    []api.Proc
	vars     []api.Var // what is seen where something is made
	ahead    int       // procedures that may not be called there, so that few go round
	without  []int     // kinds of statements that are not made
}

func makerOf(t testing.TB, seed int) *maker {
	m := &maker{Rand: rand.New(rand.NewSource(int64(seed)))}
	s := api.Schema{Levels: one("low", "high"), Edges: one(api.Pair{Low: "low", High: "high"}), Limit: 2 + m.Intn(6)}
	for _, i := range m.Perm(3)[:1+m.Intn(3)] {
		s.Tables = append(s.Tables, m.table(one("t", "u", "v")[i]))
	}
	for _, i := range m.Perm(3)[:1+m.Intn(3)] {
		s.Channels = append(s.Channels, api.Pair{Low: one("out", "log", "err")[i], High: pick(m, "low", "high")})
	}
	c, at, err := schema.New(s)
	if err != api.OK {
		t.Fatalf("%+v: %d %v", s, at, err)
	}
	m.catalog, m.tables, m.channels = c, c.Tables(), c.Channels()
	return m
}

func pick[T any](m *maker, l ...T) T { return l[m.Intn(len(l))] }

func (m *maker) often(percent int) bool { return m.Intn(100) < percent }

// kind is a type that variables and columns may have.
func (m *maker) kind() int { return pick(m, api.TyBool, api.TyInt, api.TyInt, api.TyInt, api.TyText) }

func (m *maker) table(name string) api.Table {
	t := api.Table{Name: name, Rows: "low"}
	for _, i := range m.Perm(4)[:1+m.Intn(4)] {
		t.Cols = append(t.Cols, api.Col{Name: one("a", "b", "c", "d")[i], Type: m.kind(), Null: m.often(70), Level: "low"})
	}
	if m.often(40) {
		for _, i := range m.Perm(len(t.Cols))[:1+m.Intn(min(2, len(t.Cols)))] {
			t.Key = append(t.Key, t.Cols[i].Name)
		}
	}
	if m.often(30) {
		t.Hide, t.When = "high", one(api.Expr{Kind: api.ExIs, N: m.Intn(2), Kids: one(api.Expr{Kind: api.ExCol, S: pick(m, t.Cols...).Name})})
	}
	return t
}

// db has some rows in each table: those that may be there.
func (m *maker) db() *store.DB {
	d := store.New(m.catalog)
	for i, r := range m.tables {
		for range m.Intn(m.catalog.Limit() + 1) {
			d.Add(i, numbered(len(r.Cols), func(j int) api.Value { return m.value(r.Cols[j].Type) }))
		}
	}
	return d
}

func (m *maker) value(kind int) api.Value {
	if m.often(15) {
		return val(nil)
	}
	return one(val(nil), val(m.often(50)), val(m.Intn(5)-1), val(pick(m, "", "a", "b")))[kind]
}

func (m *maker) inputs() []int {
	return numbered(m.Intn(5), func(int) int { return m.Intn(6) - 1 })
}

// named are variables of some names, in any order.
func (m *maker) named(least int, names ...string) []api.Var {
	order := m.Perm(len(names))
	return numbered(least+m.Intn(len(names)+1-least), func(i int) api.Var { return api.Var{Name: names[order[i]], Type: m.kind()} })
}

func (m *maker) script() api.Script {
	s := api.Script{Vars: m.named(2, "a", "b", "c", "d", "e", "f")}
	s.Procs = numbered(m.Intn(4), func(i int) api.Proc {
		return api.Proc{Name: one("p", "q", "t")[i], Params: m.named(0, "a", "b", "c"), Vars: m.named(0, "d", "e", "g")}
	})
	m.procs = s.Procs
	for i, p := range s.Procs {
		m.vars, m.ahead = slices.Concat(p.Params, p.Vars), i+1
		s.Procs[i].Body = m.block(2)
	}
	m.vars, m.ahead = s.Vars, 0
	s.Body = append(m.block(3), m.block(3)...)
	return s
}

func (m *maker) block(deep int) []api.Stmt {
	return numbered(1+m.Intn(2+deep), func(int) api.Stmt { return m.stmt(deep) })
}

// variable is the name of one that is seen, of a type.
func (m *maker) variable(kind int) string {
	such := slices.DeleteFunc(slices.Clone(m.vars), func(v api.Var) bool { return v.Type != kind })
	if len(such) == 0 {
		return ""
	}
	return pick(m, such...).Name
}

// stmt makes a statement; skip, if there is nothing of which the one that is meant can be made.
func (m *maker) stmt(deep int) api.Stmt {
	s := api.Stmt{Kind: 1 + m.Intn(17)}
	switch {
	case m.often(30):
		s.Kind = pick(m, api.StPrint, api.StSet, api.StInsert)
	case s.Kind == api.StRaise && m.often(70), slices.Contains(m.without, s.Kind):
		s.Kind = api.StPrint
	case deep <= 1 && slices.Contains(one(api.StIf, api.StWhile, api.StFor, api.StTry), s.Kind):
		s.Kind = api.StSet
	}
	switch s.Kind {
	case api.StSet, api.StInput, api.StFor:
		m.toVariables(&s)
	case api.StIf:
		s.E = one(m.expr(nil, api.TyBool, 1+m.Intn(3)))
	case api.StPrint:
		s.Table, s.E = pick(m, m.channels...).Name, one(m.expr(nil, m.Intn(4), 1+m.Intn(3)))
	case api.StCall:
		m.toProc(&s)
	case api.StInsert, api.StInsertQ, api.StUpdate, api.StDelete:
		m.toTable(&s)
	}
	if s.Kind == api.StIf || s.Kind == api.StWhile || s.Kind == api.StFor || s.Kind == api.StTry {
		s.Body = m.block(deep - 1)
	}
	if s.Kind == api.StTry || s.Kind == api.StIf && m.often(50) {
		s.Else = m.block(deep - 1)
	}
	if s.Kind == api.StWhile {
		m.toWhile(&s)
	}
	return s
}

func variableOf(name string) api.Expr { return api.Expr{Kind: api.ExVar, S: name} }

func number(n int) api.Expr { return api.Expr{Kind: api.ExInt, N: n} }

func bin(mark string, a, b api.Expr) api.Expr {
	return api.Expr{Kind: api.ExBin, S: mark, Kids: one(a, b)}
}

// toWhile makes most of these count up, so that they end.
func (m *maker) toWhile(s *api.Stmt) {
	name := m.variable(api.TyInt)
	if name == "" || m.often(20) {
		s.E = one(m.expr(nil, api.TyBool, 1+m.Intn(3)))
		return
	}
	is := api.Expr{Kind: api.ExIs, Kids: one(variableOf(name))}
	s.E = one(bin("or", is, bin("<", variableOf(name), number(2))))
	next := api.Expr{Kind: api.ExCase, Kids: one(is, number(m.Intn(2)), bin("+", variableOf(name), number(1)))}
	s.Body = append(s.Body, api.Stmt{Kind: api.StSet, Names: one(name), E: one(next)})
}

func (m *maker) toVariables(s *api.Stmt) {
	if s.Kind == api.StFor {
		m.toMany(s)
		return
	}
	kind := api.TyInt
	if s.Kind == api.StSet {
		kind = m.kind()
	}
	name := m.variable(kind)
	if name == "" {
		*s = api.Stmt{Kind: api.StSkip}
		return
	}
	s.Names = one(name)
	if s.Kind == api.StSet {
		s.E = one(m.expr(nil, kind, 1+m.Intn(3)))
	}
}

func (m *maker) toMany(s *api.Stmt) {
	var kinds []int
	for _, i := range m.Perm(len(m.vars))[:min(len(m.vars), 1+m.Intn(3))] {
		s.Names, kinds = append(s.Names, m.vars[i].Name), append(kinds, m.vars[i].Type)
	}
	if len(s.Names) == 0 {
		*s = api.Stmt{Kind: api.StSkip}
		return
	}
	s.Q = one(m.query(kinds, 1+m.Intn(2)))
}

func (m *maker) toProc(s *api.Stmt) {
	from := m.ahead
	if m.often(10) {
		from = 0
	}
	if from >= len(m.procs) {
		*s = api.Stmt{Kind: api.StSkip}
		return
	}
	of := pick(m, m.procs[from:]...)
	s.Table = of.Name
	s.E = numbered(len(of.Params), func(i int) api.Expr { return m.expr(nil, of.Params[i].Type, 1+m.Intn(3)) })
}

func (m *maker) toTable(s *api.Stmt) {
	of := pick(m, m.tables...)
	s.Table = of.Name
	kinds := numbered(len(of.Cols), func(i int) int { return of.Cols[i].Type })
	switch s.Kind {
	case api.StInsert:
		s.E = numbered(len(kinds), func(i int) api.Expr { return m.expr(nil, kinds[i], 1+m.Intn(2)) })
	case api.StInsertQ:
		s.Q = one(m.query(kinds, 1+m.Intn(2)))
	case api.StUpdate:
		for _, i := range m.Perm(len(of.Cols)) {
			if !slices.Contains(change.Fixed(of), i) && m.often(70) {
				s.Names, s.E = append(s.Names, of.Cols[i].Name), append(s.E, m.expr(placesOf(of), kinds[i], 1+m.Intn(3)))
			}
		}
		if len(s.Names) == 0 {
			*s = api.Stmt{Kind: api.StSkip}
			return
		}
		fallthrough
	case api.StDelete:
		if m.often(80) {
			s.Where = one(m.expr(placesOf(of), api.TyBool, 1+m.Intn(3)))
		}
	}
}

func placesOf(r api.Relation) []api.Place {
	return numbered(len(r.Cols), func(i int) api.Place { return api.Place{T: r.Name, Name: r.Cols[i].Name, Type: r.Cols[i].Type} })
}

// expr makes one of a type over columns, so deep at the most.
func (m *maker) expr(cols []api.Place, kind, deep int) api.Expr {
	part := func(kind int) api.Expr { return m.expr(cols, kind, deep-1) }
	switch {
	case m.often(2) && kind == api.TyInt:
		return bin("*", number(999999999999999999), number(10))
	case m.often(4) && kind == api.TyText:
		long := api.Expr{Kind: api.ExText, S: strings.Repeat("l", 600)}
		return bin("||", long, long)
	case deep <= 1 || m.often(20):
		return m.leaf(cols, kind)
	case m.often(10):
		return api.Expr{Kind: api.ExCase, Kids: one(part(api.TyBool), part(kind), part(kind))}
	case m.often(10):
		return api.Expr{Kind: api.ExScalar, Q: one(m.query(one(kind), deep-1))}
	case kind == api.TyBool:
		return m.truth(part, deep)
	case kind == api.TyInt:
		return bin(pick(m, "+", "+", "-", "*", "/", "%"), part(kind), part(kind))
	case kind == api.TyText:
		return bin("||", part(kind), part(kind))
	}
	return m.leaf(cols, kind)
}

func (m *maker) leaf(cols []api.Place, kind int) api.Expr {
	found := slices.DeleteFunc(slices.Clone(cols), func(p api.Place) bool { return p.Type != kind })
	switch {
	case len(found) > 0 && m.often(70):
		of := pick(m, found...)
		return api.Expr{Kind: api.ExCol, S: of.Name, T: pick(m, "", of.T)}
	case kind != api.TyNull && m.often(60):
		if name := m.variable(kind); name != "" {
			return variableOf(name)
		}
	case m.often(10):
		kind = api.TyNull
	}
	return one(api.Expr{Kind: api.ExNull}, api.Expr{Kind: api.ExBool, N: m.Intn(2)}, number(m.Intn(4)), api.Expr{Kind: api.ExText, S: pick(m, "", "a", "it's")})[kind]
}

func (m *maker) truth(part func(kind int) api.Expr, deep int) api.Expr {
	of := m.Intn(4)
	switch m.Intn(7) {
	case 0:
		return api.Expr{Kind: api.ExNot, Kids: one(part(api.TyBool))}
	case 1:
		return api.Expr{Kind: api.ExIs, N: m.Intn(2), Kids: one(part(of))}
	case 2:
		return bin(pick(m, "or", "and"), part(api.TyBool), part(api.TyBool))
	case 3:
		return api.Expr{Kind: api.ExExists, Q: one(m.query(one(of), deep-1))}
	case 4:
		return api.Expr{Kind: api.ExIn, N: m.Intn(2), Kids: one(part(of)), Q: one(m.query(one(of), deep-1))}
	}
	return bin(pick(m, "=", "<>", "<", "<=", ">", ">="), part(of), part(of))
}

// query makes one whose columns have these types.
func (m *maker) query(kinds []int, deep int) api.Query {
	of := pick(m, m.tables...)
	q := api.Query{Kind: api.QuSelect, Limit: pick(m, -1, -1, 1), Distinct: m.often(20)}
	var cols []api.Place
	if m.often(80) {
		q.From = one(api.From{Kind: api.FrTable, Table: of.Name, As: of.Name, Visible: m.often(30)})
		cols = placesOf(of)
	}
	if m.often(40) {
		q.Where = one(m.expr(cols, api.TyBool, deep))
	}
	for i, kind := range kinds {
		q.Items = append(q.Items, api.Item{E: m.expr(cols, kind, deep), Name: fmt.Sprint("x", i)})
	}
	if deep > 1 && m.often(20) {
		return api.Query{Kind: api.QuUnion + m.Intn(4), Limit: -1, Kids: one(q, m.query(kinds, deep-1))}
	}
	return q
}
