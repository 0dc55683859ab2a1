package change_test

import (
	"math/rand"
	"slices"
	"testing"

	"cordon/api"
	"cordon/schema"
	"cordon/store"
)

// maker makes schemas, rows, and statements that change tables, of few values so that some collide.
type maker struct {
	*rand.Rand
	t       testing.TB
	catalog *schema.Catalog
	tables  []api.Relation
	visible bool // queries take just rows that are visible
	calm    bool // nothing that can raise something
}

func makerOf(t testing.TB, seed int) *maker {
	m := &maker{Rand: rand.New(rand.NewSource(int64(seed))), t: t}
	s := api.Schema{Levels: one("low", "high"), Edges: one(api.Pair{Low: "low", High: "high"}), Limit: pick(m, 0, 1, 3, 5, 8, 8)}
	for _, name := range one("t", "u", "v")[:1+m.Intn(3)] {
		s.Tables = append(s.Tables, m.table(name))
	}
	c, at, err := schema.New(s)
	if err != api.OK {
		t.Fatalf("%+v: %d %v", s, at, err)
	}
	m.catalog, m.tables = c, c.Tables()
	return m
}

func pick[T any](m *maker, l ...T) T { return l[m.Intn(len(l))] }

func (m *maker) often(percent int) bool { return m.Intn(100) < percent }

func (m *maker) table(name string) api.Table {
	t := api.Table{Name: name, Rows: "low"}
	for _, col := range one("a", "b", "c", "d")[:1+m.Intn(4)] {
		t.Cols = append(t.Cols, api.Col{Name: col, Type: pick(m, 1, 2, 2, 2, 3), Null: m.often(60), Level: "low"})
	}
	if m.often(60) {
		for _, i := range m.Perm(len(t.Cols))[:1+m.Intn(min(2, len(t.Cols)))] {
			t.Key = append(t.Key, t.Cols[i].Name)
		}
	}
	if m.often(70) {
		t.Hide, t.When = "high", one(m.predicate(name, t.Cols))
	}
	return t
}

// predicate is one of one column or two.
func (m *maker) predicate(table string, cols []api.Col) api.Expr {
	part := func() api.Expr {
		of := pick(m, cols...)
		col := api.Expr{Kind: api.ExCol, S: of.Name, T: pick(m, "", table)}
		if m.often(20) {
			return api.Expr{Kind: api.ExIs, N: m.Intn(2), Kids: one(col)}
		}
		return api.Expr{Kind: api.ExBin, S: pick(m, "=", "<>", "<", ">="), Kids: one(col, m.constant(of.Type))}
	}
	switch m.Intn(4) {
	case 0:
		return api.Expr{Kind: api.ExBin, S: pick(m, "or", "and"), Kids: one(part(), part())}
	case 1:
		return api.Expr{Kind: api.ExNot, Kids: one(part())}
	}
	return part()
}

// value is one of a type, or null.
func (m *maker) value(kind int) api.Value {
	return one(val(nil), val(m.often(50)), val(pick(m, -1, 0, 1, 1, 2, 3, 4, 5)), val(pick(m, "", "a", "b", "ab")))[kind]
}

func (m *maker) constant(kind int) api.Expr {
	v := m.value(kind)
	return api.Expr{Kind: api.ExNull + kind, N: max(v.N, 0), S: v.S}
}

func (m *maker) row(r api.Relation) rowOf {
	return numbered(len(r.Cols), func(i int) api.Value {
		if r.Cols[i].Null && m.often(25) {
			return val(nil)
		}
		return m.value(r.Cols[i].Type)
	})
}

// db is a store with rows, as many as there is room for, or fewer.
func (m *maker) db() *store.DB {
	d := store.New(m.catalog)
	for i, r := range m.tables {
		for range m.Intn(min(m.catalog.Limit(), 8) + 1) {
			d.Add(i, m.row(r)) // one that collides is left out
		}
	}
	return d
}

// rehidden is a store with the same visible rows in the same order, and other hidden ones, or none, among them.
func (m *maker) rehidden(d *store.DB) *store.DB {
	out := store.New(m.catalog)
	for i, r := range m.tables {
		l := d.Visible(i)
		for range m.Intn(6) {
			hidden := m.row(r)
			if more := slices.Insert(slices.Clone(l), m.Intn(len(l)+1), hidden); d.Hidden(i, hidden) && out.Put(i, more) == api.OK {
				l = more
			}
		}
		if err := out.Put(i, l); err != api.OK {
			m.t.Fatalf("visible rows: %v", err)
		}
	}
	return out
}

const letters = "nbis" // by type

func (m *maker) vars() []api.Var {
	return numbered(4, func(i int) api.Var { return api.Var{Name: letters[i : i+1], Type: i} })
}

func (m *maker) bound() []api.Bound {
	out := numbered(4, func(i int) api.Bound { return api.Bound{Name: letters[i : i+1], Value: m.value(pick(m, i, i, 0))} })
	if m.often(20) {
		out[2].Value = val(pick(m, most, -most-1))
	}
	return out
}

// expr makes one of a type over columns, so deep at the most.
func (m *maker) expr(cols []api.Place, kind, deep int) api.Expr {
	part := func(kind int) api.Expr { return m.expr(cols, kind, deep-1) }
	switch {
	case deep <= 1 || m.often(20):
		return m.leaf(cols, kind)
	case m.often(12):
		return api.Expr{Kind: api.ExCase, Kids: one(part(api.TyBool), part(kind), part(kind))}
	case m.often(12) && !m.calm:
		return api.Expr{Kind: api.ExScalar, Q: one(m.single(kind, deep-1))}
	case kind == api.TyBool:
		return m.truth(part, deep)
	case m.calm:
		return m.leaf(cols, kind)
	case kind == api.TyInt && m.often(20):
		return api.Expr{Kind: api.ExNeg, Kids: one(part(kind))}
	case kind == api.TyInt:
		return api.Expr{Kind: api.ExBin, S: pick(m, "+", "+", "-", "*", "/", "%"), Kids: one(part(kind), part(kind))}
	case kind == api.TyText:
		return api.Expr{Kind: api.ExBin, S: "||", Kids: one(part(kind), part(kind))}
	}
	return m.leaf(cols, kind)
}

func (m *maker) leaf(cols []api.Place, kind int) api.Expr {
	found := slices.DeleteFunc(slices.Clone(cols), func(p api.Place) bool { return p.Type != kind })
	switch {
	case len(found) > 0 && m.often(60):
		of := pick(m, found...)
		return api.Expr{Kind: api.ExCol, S: of.Name, T: pick(m, "", of.T)}
	case m.often(20):
		return api.Expr{Kind: api.ExVar, S: letters[kind : kind+1]}
	}
	return m.constant(kind)
}

func (m *maker) truth(part func(kind int) api.Expr, deep int) api.Expr {
	of := 1 + m.Intn(3)
	switch m.Intn(9) {
	case 0:
		return api.Expr{Kind: api.ExNot, Kids: one(part(api.TyBool))}
	case 1:
		return api.Expr{Kind: api.ExIs, N: m.Intn(2), Kids: one(part(of))}
	case 2, 3:
		return api.Expr{Kind: api.ExBin, S: pick(m, "or", "and"), Kids: one(part(api.TyBool), part(api.TyBool))}
	case 4:
		return api.Expr{Kind: api.ExExists, Q: one(m.query(one(of), deep-1))}
	case 5:
		return api.Expr{Kind: api.ExIn, N: m.Intn(2), Kids: one(part(of)), Q: one(m.query(one(of), deep-1))}
	}
	return api.Expr{Kind: api.ExBin, S: pick(m, "=", "<>", "<", "<=", ">", ">="), Kids: one(part(of), part(of))}
}

// query makes one whose columns have these types.
func (m *maker) query(kinds []int, deep int) api.Query {
	of := pick(m, m.tables...)
	q := api.Query{Kind: api.QuSelect, Limit: pick(m, -1, -1, -1, 1, 2), Distinct: m.often(20)}
	q.From = one(api.From{Kind: api.FrTable, Table: of.Name, As: of.Name, Visible: m.visible || m.often(30)})
	for i, kind := range kinds {
		q.Items = append(q.Items, api.Item{E: m.expr(placesOf(of), kind, deep), Name: one("w", "x", "y", "z")[i]})
	}
	if m.often(40) {
		q.Where = one(m.expr(placesOf(of), api.TyBool, deep))
	}
	if deep > 1 && m.often(20) {
		return api.Query{Kind: api.QuUnion + m.Intn(2), Limit: -1, Kids: one(q, m.query(kinds, deep-1))}
	}
	return q
}

// single makes a query of one column that has one row, most times.
func (m *maker) single(kind, deep int) api.Query {
	q := m.query(one(kind), deep)
	if q.Kind != api.QuSelect || m.often(10) {
		return q
	}
	q.Limit = 1
	if m.often(60) {
		agg := api.Expr{Kind: api.ExAgg, S: pick(m, "min", "max"), Kids: one(q.Items[0].E)}
		if kind == api.TyInt && m.often(50) {
			agg = api.Expr{Kind: api.ExAgg, S: "count"}
		}
		q.Items[0].E = agg
	}
	return q
}

// stmt makes a statement that changes a table, of the kinds and types that layer 15 lets through, but for a slip.
func (m *maker) stmt(kinds ...int) api.Stmt {
	of := pick(m, m.tables...)
	out := api.Stmt{Kind: pick(m, kinds...), Table: of.Name}
	types := numbered(len(of.Cols), func(i int) int { return of.Cols[i].Type })
	slip := func(kind int) int {
		if m.often(4) && !m.calm {
			return m.Intn(4)
		}
		return kind
	}
	switch out.Kind {
	case api.StInsert:
		for _, kind := range types {
			out.E = append(out.E, m.expr(nil, slip(kind), 1+m.Intn(3)))
		}
		if m.often(4) {
			out.E = out.E[1:]
		}
	case api.StInsertQ:
		out.Q = one(m.query(numbered(len(types), func(i int) int { return slip(types[i]) }), 1+m.Intn(3)))
	case api.StUpdate:
		for i, col := range of.Cols {
			if m.often(60) && (!isFixed(of, i) || m.often(4)) {
				out.Names, out.E = append(out.Names, col.Name), append(out.E, m.expr(placesOf(of), slip(col.Type), 1+m.Intn(4)))
			}
		}
		m.Shuffle(len(out.E), func(i, j int) {
			out.Names[i], out.Names[j] = out.Names[j], out.Names[i]
			out.E[i], out.E[j] = out.E[j], out.E[i]
		})
	}
	if (out.Kind == api.StUpdate || out.Kind == api.StDelete) && m.often(80) {
		out.Where = one(m.expr(placesOf(of), slip(api.TyBool), 1+m.Intn(4)))
	}
	return out
}

// call makes one, of which now and then the table, or an Update's columns or nodes, are other ones than there may be.
func (m *maker) call(kinds ...int) call {
	c := callOfStmt(m.t, m.catalog, m.vars(), m.bound(), m.stmt(kinds...))
	if m.calm {
		return c
	}
	switch {
	case m.often(3):
		c.table = pick(m, -1, len(m.tables), len(m.tables)+7)
	case c.kind == api.StUpdate && m.often(4):
		c.cols = append(c.cols, m.Intn(6)-1)
	case c.kind == api.StUpdate && m.often(4):
		at := m.Intn(6) - 1
		c.cols, c.nodes = append(c.cols, at, at), append(c.nodes, constant(1), division())
	case c.kind == api.StUpdate && m.often(4):
		c.cols, c.nodes = append(c.cols, m.Intn(6)-1), append(c.nodes, constant(nil))
	}
	return c
}

// enough looks whether each of some things came often enough.
func enough[K comparable](t *testing.T, got map[K]int, least int, names ...K) {
	t.Helper()
	for _, name := range names {
		if got[name] < least {
			t.Errorf("%v came %d times, of %v", name, got[name], got)
		}
	}
}
