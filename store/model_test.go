package store_test

import (
	"cmp"
	"math/rand"
	"slices"

	"cordon/api"
)

// A second way: the rows of tables as lists, of which each two are held against each other.

type model struct {
	tables []api.Relation
	limit  int
	rows   [][]rowOf
}

// meant is what a predicate comes to, of a row of values that are right.
func meant(r api.Relation, x api.Expr, row rowOf) api.Value {
	truth := func(is bool) api.Value {
		if is {
			return api.Value{Type: api.TyBool, N: 1}
		}
		return api.Value{Type: api.TyBool}
	}
	var kids []api.Value
	null, strange := false, false // is one null, is one neither null nor a truth
	for _, k := range x.Kids {
		v := meant(r, k, row)
		null = null || v.Type == api.TyNull
		strange = strange || v.Type > api.TyBool
		kids = append(kids, v)
	}
	switch x.Kind {
	case api.ExBool:
		return truth(x.N == 1)
	case api.ExInt:
		return api.Value{Type: api.TyInt, N: x.N}
	case api.ExText:
		return api.Value{Type: api.TyText, S: x.S}
	case api.ExCol:
		place := slices.IndexFunc(r.Cols, func(f api.Field) bool { return f.Name == x.S })
		if place < len(row) {
			return row[place]
		}
	case api.ExIs:
		return truth(null == (x.N != 1))
	case api.ExCase:
		if kids[0] == truth(true) {
			return kids[1]
		}
		return kids[2]
	case api.ExNot:
		if !null && !strange {
			return truth(kids[0].N == 0)
		}
	case api.ExBin:
		wins := truth(x.S == "or")
		switch x.S {
		case "or", "and":
			switch {
			case strange:
				return api.Value{}
			case kids[0] == wins || kids[1] == wins:
				return wins
			case !null:
				return truth(x.S == "and")
			}
			return api.Value{}
		}
		if !null && kids[0].Type == kids[1].Type {
			return truth(holds(x.S, cmp.Or(cmp.Compare(kids[0].N, kids[1].N), cmp.Compare(kids[0].S, kids[1].S))))
		}
	}
	return api.Value{}
}

// holds tells whether a mark is true of two values that stand so.
func holds(mark string, order int) bool {
	return slices.Contains(map[string][]int{"=": {0}, "<>": {-1, 1}, "<": {-1}, "<=": {-1, 0}, ">": {1}, ">=": {0, 1}}[mark], order)
}

func (m *model) hidden(t int, row rowOf) bool {
	r := m.tables[t]
	return len(r.When) == 1 && meant(r, r.When[0], row) == val(true)
}

func (m *model) collide(t int, a, b rowOf) bool {
	for _, place := range m.tables[t].Key {
		if a[place] != b[place] {
			return false
		}
	}
	return len(m.tables[t].Key) > 0 && m.hidden(t, a) == m.hidden(t, b)
}

func (m *model) fits(t int, row rowOf) api.Errno {
	if t < 0 || t >= len(m.tables) {
		return api.ErrArg
	}
	cols := m.tables[t].Cols
	if len(row) != len(cols) {
		return api.ErrShape
	}
	for i, v := range row {
		if err := wantFit(v, cols[i].Type, cols[i].Null); err != api.OK {
			return err
		}
	}
	return api.OK
}

func (m *model) put(t int, rows []rowOf) api.Errno {
	if t < 0 || t >= len(m.tables) {
		return api.ErrArg
	}
	for _, r := range rows {
		if err := m.fits(t, r); err != api.OK {
			return err
		}
	}
	if len(rows) > m.limit {
		return api.ErrRows
	}
	for i := range rows {
		for j := range i {
			if m.collide(t, rows[i], rows[j]) {
				return api.ErrKey
			}
		}
	}
	m.rows[t] = copied(rows)
	return api.OK
}

func (m *model) add(t int, row rowOf) api.Errno {
	if err := m.fits(t, row); err != api.OK {
		return err
	}
	for _, o := range m.rows[t] {
		if m.collide(t, row, o) {
			return api.ErrKey
		}
	}
	if len(m.rows[t]) == m.limit {
		return api.ErrRows
	}
	m.rows[t] = append(m.rows[t], slices.Clone(row))
	return api.OK
}

func (m *model) visible(t int) []rowOf {
	var out []rowOf
	for _, r := range m.rows[t] {
		if !m.hidden(t, r) {
			out = append(out, r)
		}
	}
	return out
}

// maker makes schemas, rows and what is done, of few values so that some collide.
type maker struct{ *rand.Rand }

func makers(n int) func(func(int, maker) bool) {
	return func(yield func(int, maker) bool) {
		for i := range n {
			if !yield(i, maker{rand.New(rand.NewSource(int64(i)))}) {
				return
			}
		}
	}
}

func pick[T any](m maker, l ...T) T { return l[m.Intn(len(l))] }

func (m maker) often(percent int) bool { return m.Intn(100) < percent }

// value is one of a type, or null.
func (m maker) value(kind int) api.Value {
	switch kind {
	case api.TyBool:
		return val(pick(m, true, false))
	case api.TyInt:
		return val(pick(m, 0, 1, 1, 2, -1))
	case api.TyText:
		return val(pick(m, "", "a", "a", "ab", "\x00"))
	}
	return val(nil)
}

// expr is a predicate, or a part of one, of a type.
func (m maker) expr(cols []api.Col, kind, deep int) api.Expr {
	if m.often(8) {
		return api.Expr{Kind: api.ExNull}
	}
	if deep == 0 || m.often(15) {
		return m.leaf(cols, kind)
	}
	sub := func(kind int) api.Expr { return m.expr(cols, kind, deep-1) }
	if m.often(15) {
		return api.Expr{Kind: api.ExCase, Kids: []api.Expr{sub(api.TyBool), sub(kind), sub(kind)}}
	}
	if kind != api.TyBool {
		return m.leaf(cols, kind)
	}
	of := 1 + m.Intn(3)
	switch m.Intn(5) {
	case 0:
		return api.Expr{Kind: api.ExNot, Kids: []api.Expr{sub(kind)}}
	case 1:
		return api.Expr{Kind: api.ExIs, N: m.Intn(2), Kids: []api.Expr{sub(of)}}
	case 2:
		return api.Expr{Kind: api.ExBin, S: pick(m, "or", "and"), Kids: []api.Expr{sub(kind), sub(kind)}}
	}
	return api.Expr{Kind: api.ExBin, S: pick(m, "=", "<>", "<", "<=", ">", ">="), Kids: []api.Expr{sub(of), sub(of)}}
}

// leaf is a column of a type, if there is one, or a constant.
func (m maker) leaf(cols []api.Col, kind int) api.Expr {
	if c := pick(m, cols...); c.Type == kind || m.often(50) {
		for _, o := range append(slices.Clone(cols), c) {
			if o.Type == kind {
				return api.Expr{Kind: api.ExCol, S: o.Name}
			}
		}
	}
	v := m.value(kind)
	return api.Expr{Kind: [...]int{api.ExNull, api.ExBool, api.ExInt, api.ExText}[kind], N: v.N, S: v.S}
}

func (m maker) table(name string) api.Table {
	t := api.Table{Name: name, Rows: "low"}
	for _, col := range []string{"a", "b", "c", "d"}[:1+m.Intn(4)] {
		t.Cols = append(t.Cols, api.Col{Name: col, Type: 1 + m.Intn(3), Null: m.often(60), Level: "low"})
	}
	if m.often(75) {
		for _, i := range m.Perm(len(t.Cols))[:1+m.Intn(len(t.Cols))] {
			t.Key = append(t.Key, t.Cols[i].Name)
		}
	}
	if m.often(75) {
		t.Hide, t.When = "high", []api.Expr{m.expr(t.Cols, api.TyBool, 1+m.Intn(4))}
	}
	return t
}

func (m maker) schema() api.Schema {
	s := api.Schema{Levels: []string{"low", "high"}, Edges: []api.Pair{{Low: "low", High: "high"}}, Limit: pick(m, 0, 1, 2, 4, 7, 7, 20)}
	for _, name := range []string{"t", "u", "v"}[:1+m.Intn(3)] {
		s.Tables = append(s.Tables, m.table(name))
	}
	return s
}

// row is one that fits, but for a slip.
func (m maker) row(r api.Relation, slips int) rowOf {
	var out rowOf
	for _, f := range r.Cols {
		v := m.value(f.Type)
		if f.Null && m.often(25) {
			v = val(nil)
		}
		if m.often(slips) {
			v = pick(m, val(nil), pick(m, allValues()...))
		}
		out = append(out, v)
	}
	switch {
	case m.often(slips):
		return out[1:]
	case m.often(slips):
		return append(out, val(nil))
	}
	return out
}

func (m maker) list(r api.Relation, most, slips int) []rowOf {
	var out []rowOf
	for range m.Intn(most + 1) {
		out = append(out, m.row(r, slips))
	}
	return out
}
