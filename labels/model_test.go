package labels_test

import (
	"slices"
	"testing"

	"cordon/api"
	"cordon/labels"
)

// P17.2 a second way: expressions and queries are looked at as they are read, without plans. What is in something is a set of levels, and the least one above them is looked for at the end alone. What an expression's value is, whether it can raise something, and at which level are asked apart.

type set uint // of levels, as bits

type model struct{ world }

// source is rows under names; behind a group also what was gathered, and sheet is what is known of them.
type source struct {
	places []api.Place
	aggs   []set
	sheet
}

type sheet struct {
	rows  set
	cols  []set
	can   bool
	raise set
}

func (m model) level(name string) set { return 1 << levelOf(m.c, name) }

// least is the least level above all of a set.
func (m model) least(s set) int {
	l := m.c.Lattice()
	var above []int
	for level := range l.Levels() {
		if !slices.ContainsFunc(members(s), func(x int) bool { return !l.Leq(x, level) }) {
			above = append(above, level)
		}
	}
	return slices.MinFunc(above, func(a, b int) int {
		switch {
		case a != b && l.Leq(a, b):
			return -1
		case a != b && l.Leq(b, a):
			return 1
		}
		return 0
	})
}

func members(s set) []int {
	var out []int
	for x := range 16 {
		if s>>x&1 == 1 {
			out = append(out, x)
		}
	}
	return out
}

// union is all that stands in some sets.
func union(sets ...set) set {
	var out set
	for _, s := range sets {
		out |= s
	}
	return out
}

func (m model) markOf(x api.Expr, s source) api.Mark {
	out := api.Mark{Value: m.least(m.value(x, s)), Can: m.can(x), Raise: m.least(0)}
	if out.Can {
		out.Raise = m.least(m.raise(x, s))
	}
	return out
}

func (m model) sheetOf(s sheet) api.Sheet {
	out := api.Sheet{Rows: m.least(s.rows), Cols: numbered(len(s.cols), func(i int) int { return m.least(s.cols[i]) }), Can: s.can, Raise: m.least(0)}
	if out.Can {
		out.Raise = m.least(s.raise)
	}
	return out
}

func (m model) value(x api.Expr, s source) set {
	switch x.Kind {
	case api.ExCol:
		return m.column(x, s)
	case api.ExVar:
		for _, v := range m.vars {
			if v.Name == x.S {
				return 1 << v.Level
			}
		}
	}
	var out set
	for _, kid := range x.Kids {
		out |= m.value(kid, s)
	}
	for _, q := range x.Q {
		in := m.query(q)
		out |= in.rows
		if x.Kind != api.ExExists {
			out |= in.cols[0]
		}
	}
	return out
}

func (m model) column(x api.Expr, s source) set {
	if x.T == "#" {
		return s.aggs[x.N]
	}
	for i, p := range s.places {
		if p.Name == x.S && (x.T == "" || p.T == x.T) {
			return s.cols[i]
		}
	}
	panic("no such column " + x.S)
}

// raisesItself tells whether an expression can raise something, whatever its kids do.
func raisesItself(x api.Expr) bool {
	return x.Kind == api.ExNeg || x.Kind == api.ExScalar || x.Kind == api.ExBin && slices.Contains([]string{"+", "-", "*", "/", "%", "||"}, x.S)
}

func (m model) can(x api.Expr) bool {
	return raisesItself(x) || slices.ContainsFunc(x.Kids, m.can) || slices.ContainsFunc(x.Q, func(q api.Query) bool { return m.query(q).can })
}

func (m model) raise(x api.Expr, s source) set {
	var out set
	for i, kid := range x.Kids {
		out |= m.raise(kid, s)
		if x.Kind == api.ExCase && i > 0 && m.can(kid) {
			out |= m.value(x.Kids[0], s)
		}
	}
	for _, q := range x.Q {
		if in := m.query(q); in.can {
			out |= in.raise
		}
	}
	switch {
	case x.Kind == api.ExScalar:
		out |= m.query(x.Q[0]).rows
	case raisesItself(x):
		out |= m.value(x, s)
	}
	return out
}

// each is what is known when expressions are done of each row; the rows stay.
func (m model) each(s source, l []api.Expr) source {
	for _, x := range l {
		if m.can(x) {
			s.can = true
			s.raise |= s.rows | m.raise(x, s)
		}
	}
	return s
}

// kept is what is known of rows of which expressions say which there are, and where.
func (m model) kept(s source, l []api.Expr) source {
	out := m.each(s, l)
	for _, x := range l {
		out.rows |= m.value(x, s)
	}
	return out
}

func (m model) query(q api.Query) sheet {
	if q.Kind == api.QuSelect {
		return m.selected(q)
	}
	a, b := m.query(q.Kids[0]), m.query(q.Kids[1])
	out := sheet{rows: a.rows | b.rows, can: a.can || b.can, raise: a.raise | b.raise, cols: a.cols}
	if q.Kind == api.QuUnion || q.Kind == api.QuUnionAll {
		out.cols = numbered(len(a.cols), func(i int) set { return a.cols[i] | b.cols[i] })
	}
	if q.Kind != api.QuUnionAll { // rows are held against each other
		out.rows |= union(a.cols...) | union(b.cols...)
	}
	return out
}

func (m model) selected(q api.Query) sheet {
	var s source
	if len(q.From) > 0 {
		s = m.from(q.From[0])
	}
	s = m.kept(s, q.Where)
	var aggs []api.Expr
	items := numbered(len(q.Items), func(i int) api.Expr { return parted(q.Items[i].E, &aggs) })
	having := numbered(len(q.Having), func(i int) api.Expr { return parted(q.Having[i], &aggs) })
	if len(aggs) > 0 || len(q.Group) > 0 {
		s = m.grouped(s, q.Group, aggs)
	}
	s = m.each(m.kept(s, having), items)
	out := source{sheet: s.sheet}
	out.cols = numbered(len(items), func(i int) set { return m.value(items[i], s) })
	out.places = numbered(len(items), func(i int) api.Place { return api.Place{Name: q.Items[i].Name} })
	if q.Distinct {
		out.rows |= union(out.cols...)
	}
	return m.kept(out, numbered(len(q.Order), func(i int) api.Expr { return q.Order[i].E })).sheet
}

// parted is an expression in which what is gathered is named by its number.
func parted(x api.Expr, aggs *[]api.Expr) api.Expr {
	if x.Kind == api.ExAgg {
		*aggs = append(*aggs, x)
		return api.Expr{Kind: api.ExCol, T: "#", N: len(*aggs) - 1}
	}
	x.Kids = numbered(len(x.Kids), func(i int) api.Expr { return parted(x.Kids[i], aggs) })
	return x
}

func (m model) grouped(s source, by, aggs []api.Expr) source {
	var keys set
	for _, x := range by {
		keys |= m.value(x, s)
	}
	out := s
	for _, g := range aggs {
		out = m.each(out, g.Kids)
		var of set
		for _, kid := range g.Kids {
			of |= m.value(kid, s)
		}
		if g.S == "sum" {
			out.can = true
			out.raise |= of | keys | s.rows
		}
		if len(by) == 0 {
			of |= s.rows
		}
		out.aggs = append(out.aggs, of)
	}
	if out.rows |= keys; len(by) == 0 {
		out.rows = 0
	}
	return out
}

func (m model) from(f api.From) source {
	var out source
	switch f.Kind {
	case api.FrTable:
		t := m.s.Tables[slices.IndexFunc(m.s.Tables, func(t api.Table) bool { return t.Name == f.Table })]
		out.rows = m.level(t.Rows)
		for _, c := range t.Cols {
			out.places = append(out.places, api.Place{T: f.As, Name: c.Name})
			out.cols = append(out.cols, out.rows|m.level(c.Level))
		}
		if len(t.When) > 0 && !f.Visible {
			out.rows |= m.level(t.Hide)
		}
		return out
	case api.FrQuery:
		out.sheet = m.query(f.Q[0])
		for _, i := range head(f.Q[0]).Items {
			out.places = append(out.places, api.Place{T: f.As, Name: i.Name})
		}
		return out
	}
	a, b := m.from(f.Kids[0]), m.from(f.Kids[1])
	out.places = slices.Concat(a.places, b.places)
	out.sheet = sheet{rows: a.rows | b.rows, cols: slices.Concat(a.cols, b.cols), can: a.can || b.can, raise: a.raise | b.raise}
	return m.kept(out, f.On)
}

// P17.2, of expressions and queries made in worlds of any kind.
func TestMade(t *testing.T) {
	ends, marks := map[string]int{}, map[string]int{}
	madeIn(t, 0, 12000, func(m *maker, x made) {
		second := model{m.world}
		cols := source{places: madePlaces(), sheet: sheet{cols: numbered(len(m.cols), func(i int) set { return 1 << m.cols[i] })}}
		want := markTold(m.c, second.markOf(x.x, cols))
		check(t, x.x, markTold(m.c, labels.Node(m.c, m.vars, m.cols, x.n)), want)
		marks[want]++
		sheet := second.sheetOf(second.query(x.q))
		check(t, x.q, sheetTold(m.c, labels.Plan(m.c, m.vars, x.p)), sheetTold(m.c, sheet))
		switch bottom := m.c.Lattice().Bottom(); {
		case !sheet.Can:
			ends["raises nothing"]++
		case sheet.Raise == bottom:
			ends["raises at Bottom"]++
		case sheet.Rows != bottom:
			ends["raises above, of rows above"]++
		default:
			ends["raises above, of rows at Bottom"]++
		}
	})
	enough(t, marks, 100, "low", "a", "b", "high", "low raises low", "high raises high", "one", "one raises one")
	enough(t, marks, 15, "a raises low", "b raises low", "high raises a", "high raises b", "high raises low")
	enough(t, ends, 400, "raises nothing", "raises at Bottom", "raises above, of rows above", "raises above, of rows at Bottom")
}
