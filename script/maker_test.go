package script_test

import (
	"fmt"
	"math/rand"
	"slices"
	"strings"
	"testing"

	"cordon/api"
	"cordon/change"
	"cordon/schema"
)

// maker makes schemas, and scripts over them that are right but for slips.
type maker struct {
	*rand.Rand
	catalog  *schema.Catalog
	tables   []api.Relation
	channels []api.Named
	procs    []api.Proc
	vars     []api.Var // what is seen where something is made
	slips    int       // one in so many parts is wrong; 0: none
	stmts    int       // how many statements were made; each one's At is another number
}

func makerOf(t testing.TB, seed, slips int) *maker {
	m := &maker{Rand: rand.New(rand.NewSource(int64(seed))), slips: slips}
	s := api.Schema{Levels: one("low", "high"), Edges: one(api.Pair{Low: "low", High: "high"})}
	for _, i := range m.Perm(4)[:1+m.Intn(4)] {
		s.Tables = append(s.Tables, m.table(one("t", "u", "v", "w")[i]))
	}
	for _, i := range m.Perm(3)[:1+m.Intn(3)] {
		s.Channels = append(s.Channels, api.Pair{Low: one("out", "log", "err")[i], High: pick(m, "low", "high")})
	}
	c, at, err := schema.New(s)
	if err != api.OK {
		t.Fatalf("%+v: %d %v", s, at, err)
	}
	m.catalog, m.tables, m.channels = c, c.Tables(), c.Channels()
	return m
}

func pick[T any](m *maker, l ...T) T { return l[m.Intn(len(l))] }

func (m *maker) often(percent int) bool { return m.Intn(100) < percent }

func (m *maker) slip() bool { return m.slips > 0 && m.Intn(m.slips) == 0 }

// kind is a type that variables and columns may have.
func (m *maker) kind() int { return pick(m, api.TyBool, api.TyInt, api.TyText) }

func (m *maker) table(name string) api.Table {
	t := api.Table{Name: name, Rows: "low"}
	for _, i := range m.Perm(5)[:1+m.Intn(5)] {
		t.Cols = append(t.Cols, api.Col{Name: one("a", "b", "c", "d", "e")[i], Type: m.kind(), Null: m.often(60), Level: "low"})
	}
	if m.often(60) {
		for _, i := range m.Perm(len(t.Cols))[:1+m.Intn(min(2, len(t.Cols)))] {
			t.Key = append(t.Key, t.Cols[i].Name)
		}
	}
	if m.often(40) {
		col := api.Expr{Kind: api.ExCol, S: pick(m, t.Cols...).Name, T: pick(m, "", name)}
		t.Hide, t.When = "high", one(api.Expr{Kind: api.ExIs, N: m.Intn(2), Kids: one(col)})
	}
	return t
}

// named are variables of some names, in any order.
func (m *maker) named(names ...string) []api.Var {
	order := m.Perm(len(names))
	return numbered(m.Intn(len(names)+1), func(i int) api.Var { return api.Var{Name: names[order[i]], Type: m.kind()} })
}

// script makes one; one of its procedures may be of the name of a variable, or of a table.
func (m *maker) script() api.Script {
	s := api.Script{Vars: m.named("a", "b", "c", "d", "e", "f")}
	order := m.Perm(5)
	s.Procs = numbered(m.Intn(5), func(i int) api.Proc {
		return api.Proc{Name: one("p", "r", "b", "t", "out")[order[i]], Params: m.named("a", "b", "c", "d"), Vars: m.named("f", "g", "h", "j", "k")}
	})
	m.procs = s.Procs
	for i, p := range s.Procs {
		m.vars = slices.Concat(p.Params, p.Vars)
		s.Procs[i].Body = m.block(3)
	}
	m.vars = s.Vars
	s.Body = m.block(3)
	return s
}

func (m *maker) block(deep int) []api.Stmt {
	return numbered(m.Intn(2+deep), func(int) api.Stmt { return m.stmt(deep) })
}

// variable is the name of one that is seen, most times of a type.
func (m *maker) variable(kinds ...int) string {
	if m.slip() {
		return pick(m, "nosuch", "t", "a", "f")
	}
	such := slices.DeleteFunc(slices.Clone(m.vars), func(v api.Var) bool { return len(kinds) > 0 && v.Type != kinds[0] })
	if len(such) == 0 {
		return ""
	}
	return pick(m, such...).Name
}

// near is a type, but for a slip.
func (m *maker) near(kind int) int {
	if m.slip() {
		return m.Intn(4)
	}
	return kind
}

// off is a number of things, but for a slip.
func (m *maker) off(n int) int {
	if m.slip() {
		return max(1, n+pick(m, -1, 1))
	}
	return n
}

func (m *maker) name(l []string) string {
	if m.slip() {
		return pick(m, "nosuch", "t", "p", "out")
	}
	return pick(m, l...)
}

// stmt makes a statement; skip, if there is nothing of which the one that is meant can be made.
func (m *maker) stmt(deep int) api.Stmt {
	m.stmts++
	s := api.Stmt{Kind: 1 + m.Intn(17), At: 1000 + m.stmts}
	if deep <= 1 && slices.Contains(one(api.StIf, api.StWhile, api.StFor, api.StTry), s.Kind) {
		s.Kind = api.StSet
	}
	switch s.Kind {
	case api.StSet, api.StInput, api.StFor:
		m.toVariables(&s)
	case api.StIf, api.StWhile:
		s.E = one(m.expr(nil, m.near(api.TyBool), 1+m.Intn(3)))
	case api.StPrint:
		s.Table = m.name(numbered(len(m.channels), func(i int) string { return m.channels[i].Name }))
		s.E = one(m.expr(nil, m.Intn(4), 1+m.Intn(4)))
	case api.StCall:
		m.toProc(&s)
	case api.StInsert, api.StInsertQ, api.StUpdate, api.StDelete:
		m.toTable(&s)
	}
	if s.Kind == api.StSkip {
		return api.Stmt{Kind: api.StSkip, At: s.At}
	}
	if s.Kind == api.StIf || s.Kind == api.StWhile || s.Kind == api.StFor || s.Kind == api.StTry {
		s.Body = m.block(deep - 1)
	}
	if s.Kind == api.StTry || s.Kind == api.StIf && m.often(50) {
		s.Else = m.block(deep - 1)
	}
	return s
}

func (m *maker) toVariables(s *api.Stmt) {
	if s.Kind == api.StFor {
		m.toMany(s)
		return
	}
	kind := api.TyInt
	if s.Kind == api.StSet || m.slip() {
		kind = m.kind()
	}
	name := m.variable(kind)
	if name == "" {
		s.Kind = api.StSkip
		return
	}
	s.Names = one(name)
	if s.Kind == api.StSet {
		s.E = one(m.expr(nil, m.near(kind), 1+m.Intn(3)))
	}
}

func (m *maker) toMany(s *api.Stmt) {
	var kinds []int
	for range 1 + m.Intn(3) {
		name := m.variable()
		if name == "" || slices.Contains(s.Names, name) && !m.slip() {
			continue
		}
		s.Names, kinds = append(s.Names, name), append(kinds, m.near(max(0, typeOf(m.vars, name))))
	}
	if len(s.Names) == 0 {
		s.Kind = api.StSkip
		return
	}
	s.Q = one(m.query(m.many(kinds), 1+m.Intn(3)))
}

// many are as many types, but for a slip.
func (m *maker) many(kinds []int) []int {
	return numbered(m.off(len(kinds)), func(i int) int { return slices.Concat(kinds, one(m.Intn(4)))[i] })
}

func (m *maker) toProc(s *api.Stmt) {
	if len(m.procs) == 0 {
		s.Kind = api.StSkip
		return
	}
	of := pick(m, m.procs...)
	s.Table = m.name(one(of.Name))
	kinds := numbered(len(of.Params), func(i int) int { return of.Params[i].Type })
	if len(kinds) > 0 || m.slip() {
		kinds = m.many(kinds)
	}
	s.E = numbered(len(kinds), func(i int) api.Expr { return m.expr(nil, m.near(kinds[i]), 1+m.Intn(3)) })
}

func (m *maker) toTable(s *api.Stmt) {
	of := pick(m, m.tables...)
	s.Table = m.name(one(of.Name))
	kinds := numbered(len(of.Cols), func(i int) int { return of.Cols[i].Type })
	switch s.Kind {
	case api.StInsert:
		kinds = m.many(kinds)
		s.E = numbered(len(kinds), func(i int) api.Expr { return m.expr(nil, m.near(kinds[i]), 1+m.Intn(3)) })
	case api.StInsertQ:
		s.Q = one(m.query(m.many(numbered(len(kinds), func(i int) int { return m.near(kinds[i]) })), 1+m.Intn(3)))
	case api.StUpdate:
		for _, i := range m.Perm(len(of.Cols)) {
			if slices.Contains(change.Fixed(of), i) && !m.slip() || m.often(30) {
				continue
			}
			times := 1
			if m.slip() {
				times = 2
			}
			for range times {
				s.Names, s.E = append(s.Names, m.name(one(of.Cols[i].Name))), append(s.E, m.expr(placesOf(of), m.near(kinds[i]), 1+m.Intn(3)))
			}
		}
		if len(s.Names) == 0 {
			s.Kind = api.StSkip
			return
		}
		fallthrough
	case api.StDelete:
		if m.often(70) {
			s.Where = one(m.expr(placesOf(of), m.near(api.TyBool), 1+m.Intn(3)))
		}
	}
}

// expr makes one of a type over columns, so deep at the most.
func (m *maker) expr(cols []api.Place, kind, deep int) api.Expr {
	if m.slip() {
		return pick(m, api.Expr{Kind: api.ExCol, S: "nosuch"}, api.Expr{Kind: api.ExVar, S: "nosuch"}, api.Expr{Kind: api.ExAgg, S: "count"}, api.Expr{Kind: api.ExScalar, Q: one(m.query(one(1, 2), 1))})
	}
	part := func(kind int) api.Expr { return m.expr(cols, m.near(kind), deep-1) }
	switch {
	case deep <= 1 || m.often(20):
		return m.leaf(cols, kind)
	case m.often(10):
		return api.Expr{Kind: api.ExCase, Kids: one(part(api.TyBool), part(kind), part(kind))}
	case m.often(10):
		return api.Expr{Kind: api.ExScalar, Q: one(m.query(one(kind), deep-1))}
	case kind == api.TyBool:
		return m.truth(part, deep)
	case kind == api.TyInt:
		return api.Expr{Kind: api.ExBin, S: pick(m, "+", "-", "*", "/", "%"), Kids: one(part(kind), part(kind))}
	case kind == api.TyText:
		return api.Expr{Kind: api.ExBin, S: "||", Kids: one(part(kind), part(kind))}
	}
	return m.leaf(cols, kind)
}

func (m *maker) leaf(cols []api.Place, kind int) api.Expr {
	found := slices.DeleteFunc(slices.Clone(cols), func(p api.Place) bool { return p.Type != kind })
	switch {
	case len(found) > 0 && m.often(70):
		of := pick(m, found...)
		return api.Expr{Kind: api.ExCol, S: of.Name, T: pick(m, "", of.T)}
	case kind != api.TyNull && m.often(60):
		if name := m.variable(kind); name != "" {
			return api.Expr{Kind: api.ExVar, S: name}
		}
	case m.often(20):
		kind = api.TyNull
	}
	return one(api.Expr{Kind: api.ExNull}, api.Expr{Kind: api.ExBool, N: m.Intn(2)}, api.Expr{Kind: api.ExInt, N: m.Intn(4)}, api.Expr{Kind: api.ExText, S: pick(m, "", "a", "it's")})[kind]
}

func (m *maker) truth(part func(kind int) api.Expr, deep int) api.Expr {
	of := m.Intn(4)
	switch m.Intn(7) {
	case 0:
		return api.Expr{Kind: api.ExNot, Kids: one(part(api.TyBool))}
	case 1:
		return api.Expr{Kind: api.ExIs, N: m.Intn(2), Kids: one(part(of))}
	case 2:
		return api.Expr{Kind: api.ExBin, S: pick(m, "or", "and"), Kids: one(part(api.TyBool), part(api.TyBool))}
	case 3:
		return api.Expr{Kind: api.ExExists, Q: one(m.query(one(of), deep-1))}
	case 4:
		return api.Expr{Kind: api.ExIn, N: m.Intn(2), Kids: one(part(of)), Q: one(m.query(one(of), deep-1))}
	}
	return api.Expr{Kind: api.ExBin, S: pick(m, "=", "<>", "<", "<=", ">", ">="), Kids: one(part(of), part(of))}
}

// query makes one whose columns have these types.
func (m *maker) query(kinds []int, deep int) api.Query {
	of := pick(m, m.tables...)
	q := api.Query{Kind: api.QuSelect, Limit: pick(m, -1, -1, 2), Distinct: m.often(20)}
	var cols []api.Place
	if m.often(80) {
		as := pick(m, of.Name, "x")
		q.From = one(api.From{Kind: api.FrTable, Table: of.Name, As: as, Visible: m.often(30)})
		cols = placesOf(of)
		for i := range cols {
			cols[i].T = as
		}
	}
	if m.often(40) {
		q.Where = one(m.expr(cols, api.TyBool, deep))
	}
	for i, kind := range kinds {
		q.Items = append(q.Items, api.Item{E: m.expr(cols, kind, deep), Name: fmt.Sprint("x", i)})
	}
	if deep > 1 && m.often(20) {
		return api.Query{Kind: api.QuUnion + m.Intn(4), Limit: -1, Kids: one(q, m.query(kinds, deep-1))}
	}
	return q
}

// stmtAt is the statement of a place, if there is just one.
func stmtAt(s api.Script, at int) (api.Stmt, bool) {
	all := flat(nil, s.Body)
	for _, p := range s.Procs {
		all = append(all, flat(nil, p.Body)...)
	}
	i := slices.IndexFunc(all, func(of place) bool { return of.stmt.At == at })
	if i < 0 {
		return api.Stmt{}, false
	}
	return all[i].stmt, true
}

var kindNames = strings.Fields("none set if while for print insert insertq update delete try raise call begin commit rollback skip input")

// P15.1, P15.2, P1, P2, of scripts made at random, right ones and others: what the second way answers; and each error comes of each kind of which it can be told.
func TestMade(t *testing.T) {
	ends := map[string]int{}
	for _, slips := range []int{0, 400, 100, 30} {
		for seed := range 2500 {
			m := makerOf(t, seed+10000*slips, slips)
			s := m.script()
			_, got := watched(t, m.catalog, s)
			if t.Failed() {
				t.Fatalf("slips %d, seed %d", slips, seed)
			}
			var end string
			var at int
			fmt.Sscan(got, &end, &at)
			if of, is := stmtAt(s, at); is {
				end = kindNames[of.Kind] + " " + end
			}
			ends[end]++
			if slips == 0 && got != "OK 0" {
				t.Fatalf("seed %d: %s", seed, got)
			}
		}
	}
	enough(t, ends, 2500, "OK")
	for _, kind := range kindNames[1:] {
		switch kind {
		case "set", "if", "while", "for", "print", "insert", "insertq", "update", "delete", "call":
			enough(t, ends, 10, kind+" ErrName", kind+" ErrType", kind+" ErrShape")
		case "input":
			enough(t, ends, 10, "input ErrName", "input ErrType")
		}
	}
}
