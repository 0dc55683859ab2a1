package engine_test

import (
	"slices"
	"testing"

	"cordon/algebra"
	"cordon/api"
	"cordon/engine"
	"cordon/store"
	"cordon/types"
)

// made is a query made at random with its plan; there is none now and then, as the query is too long, or too wide.
func made(m *maker, deep int) (api.Query, api.Plan, bool) {
	q := m.query(m.kinds(3), deep)
	p, err := algebra.Plan(madeCatalog(), madeVars(), q)
	return q, p, err == api.OK
}

// P13.1, of queries made at random: what the second way tells.
func TestMade(t *testing.T) {
	ends, wrong := map[string]int{}, 0
	for seed := range 12000 {
		m := makerOf(seed)
		q, p, ok := made(m, 1+m.Intn(4))
		if !ok {
			wrong++
			continue
		}
		d, w := m.both()
		want := w.asksOf(q)
		check(t, seed, rowsAnswer(engine.Rows(d, w.vars, p)), want)
		ends[ending(want)]++
		if t.Failed() {
			return
		}
	}
	enough(t, ends, 2000, "rows", "none")
	enough(t, ends, 30, "ErrZero", "ErrOver", "ErrMany", "ErrSingle")
	if wrong > 200 {
		t.Errorf("%d have no plan", wrong)
	}
}

// P13.1, of tables with more rows: also ErrRows.
func TestMadeOfMany(t *testing.T) {
	ends := map[string]int{}
	for seed := range 600 {
		m := makerOf(20000 + seed)
		m.most = pick(m.Rand, 15, 30, 60, 100)
		q, p, ok := made(m, 1+m.Intn(2))
		if !ok {
			continue
		}
		d, w := m.both()
		want := w.asksOf(q)
		check(t, seed, rowsAnswer(engine.Rows(d, w.vars, p)), want)
		ends[ending(want)]++
		if t.Failed() {
			return
		}
	}
	enough(t, ends, 20, "rows", "ErrRows")
}

// P13.1, of expressions made at random, of rows made at random.
func TestMadeValues(t *testing.T) {
	ends := map[string]int{}
	places := madePlaces()
	for seed := range 20000 {
		m := makerOf(1000000 + seed)
		x := m.expr(env{all: places, named: places}, m.kind(), 1+m.Intn(4))
		n, err := algebra.Node(madeCatalog(), madeVars(), places, x)
		if err != api.OK {
			continue
		}
		d, w := m.both()
		r := numbered(len(places), func(i int) api.Value { return m.value(pick(m.Rand, places[i].Type, places[i].Type, 0)) })
		want := w.reckonsOf(x, places, r)
		check(t, seed, valueAnswer(engine.Value(d, w.vars, r, n)), want)
		ends[want]++
		if t.Failed() {
			return
		}
	}
	enough(t, ends, 100, "null", "true", "false", "1", "'a'")
	enough(t, ends, 10, "ErrZero", "ErrOver", "ErrMany", "ErrSingle")
}

// P13.2: Norm of a plan comes to the same, where neither is ErrRows.
func TestNorm(t *testing.T) {
	ends, turned := map[string]int{}, 0
	for seed := range 8000 {
		m := makerOf(60000 + seed)
		m.total = seed%2 == 0
		if seed%40 == 0 {
			m.most = 40
		}
		_, p, ok := made(m, 1+m.Intn(3))
		if !ok {
			continue
		}
		p = overlaid(m, p)
		norm := algebra.Norm(p)
		d, w := m.both()
		want, got := rowsAnswer(engine.Rows(d, w.vars, p)), rowsAnswer(engine.Rows(d, w.vars, norm))
		if want != "ErrRows" && got != "ErrRows" {
			check(t, seed, got, want)
		}
		if kinds(p) != kinds(norm) {
			turned++
			ends[ending(want)]++
		}
		if t.Failed() {
			return
		}
	}
	enough(t, ends, 500, "rows", "none")
	if turned < 2000 {
		t.Errorf("%d are turned", turned)
	}
}

// overlaid is a plan with some around it, of which Norm turns many.
func overlaid(m *maker, p api.Plan) api.Plan {
	for range m.Intn(5) {
		of := m.Intn(max(1, p.Width))
		switch m.Intn(6) {
		case 0:
			p = above(api.PlLimit, p)
			p.N = m.Intn(5)
		case 1:
			p = above(api.PlDistinct, p)
		case 2:
			p = above(api.PlOrder, p)
		case 3:
			p = above(api.PlSelect, p, constant(true))
		case 4:
			p = pair(api.PlJoin, p, api.Plan{Kind: api.PlScan, Width: 3}, node(api.ExNot, node(api.ExIs, at(of))))
		case 5:
			is := node(api.ExIs, at(of))
			is.N = m.Intn(2)
			p = above(api.PlSelect, p, is)
		}
	}
	return p
}

// kinds are those of a plan and its kids, as a text.
func kinds(p api.Plan) string {
	out := string(rune('a' + p.Kind))
	for _, kid := range p.Kids {
		out += kinds(kid)
	}
	return out + "."
}

// P13.3: what a query comes to has its columns' types, or null, in each row; an expression has its type, or null; all of it is right.
func TestTypes(t *testing.T) {
	places, told := madePlaces(), 0
	is := func(seed int, v api.Value, kind int) {
		if v != val(nil) && v.Type != kind {
			t.Errorf("%d: %s has not the type %d", seed, valueTold(v), kind)
		}
	}
	for seed := range 8000 {
		m := makerOf(80000 + seed)
		q, p, ok := made(m, 1+m.Intn(3))
		if !ok {
			continue
		}
		cols, _ := types.Query(madeCatalog(), madeVars(), q)
		d, w := m.both()
		l, _ := engine.Rows(d, w.vars, p)
		for _, r := range l {
			told++
			if len(r) != len(cols) || len(r) != p.Width {
				t.Fatalf("%d: %d values of %d", seed, len(r), len(cols))
			}
			for i, v := range r {
				is(seed, v, cols[i].Type)
			}
		}
		x := m.expr(env{all: places, named: places}, m.kind(), 1+m.Intn(4))
		kind, err := types.Expr(madeCatalog(), madeVars(), places, x)
		if err != api.OK {
			continue
		}
		n, _ := algebra.Node(madeCatalog(), madeVars(), places, x)
		v, _ := engine.Value(d, w.vars, numbered(len(places), func(i int) api.Value { return m.value(places[i].Type) }), n)
		is(seed, v, kind)
	}
	if told < 5000 {
		t.Errorf("%d rows", told)
	}
}

// rehidden is a store with the same visible rows, each table's hidden ones changed for others, or gone.
func rehidden(m *maker, d *store.DB) *store.DB {
	of := madeCatalog().Tables()
	return loaded(madeCatalog(), numbered(len(of), func(i int) []rowOf {
		l := d.Visible(i)
		for range m.Intn(6) {
			if r := m.row(of[i]); d.Hidden(i, r) {
				l = slices.Insert(l, m.Intn(len(l)+1), r)
			}
		}
		return l
	})...)
}

// P13.4: what a query comes to that takes just visible rows does not hang on hidden ones; of others many do.
func TestVisible(t *testing.T) {
	for _, visible := range []bool{true, false} {
		other, ends := 0, map[string]int{}
		for seed := range 4000 {
			m := makerOf(100000 + seed)
			m.visible = visible
			_, p, ok := made(m, 1+m.Intn(3))
			if !ok {
				continue
			}
			d, w := m.both()
			a, b := rowsAnswer(engine.Rows(d, w.vars, p)), rowsAnswer(engine.Rows(rehidden(m, d), w.vars, p))
			if a != b {
				other++
			}
			ends[ending(a)]++
		}
		if visible != (other == 0) || !visible && other < 300 {
			t.Errorf("visible %v: %d are other ones", visible, other)
		}
		enough(t, ends, 300, "rows", "none")
	}
}

// P13.5: what can raise nothing raises nothing; what can does so now and then.
func TestTotal(t *testing.T) {
	places, total, raised := madePlaces(), 0, 0
	for seed := range 12000 {
		m := makerOf(120000 + seed)
		m.total = seed%3 > 0
		x := m.expr(env{all: places, named: places}, m.kind(), 1+m.Intn(6))
		n, err := algebra.Node(madeCatalog(), madeVars(), places, x)
		if err != api.OK {
			continue
		}
		d, w := m.both()
		r := numbered(len(places), func(i int) api.Value { return m.value(pick(m.Rand, places[i].Type, 0)) })
		v, err := engine.Value(d, w.vars, r, n)
		switch {
		case !algebra.Total(n) && err != api.OK:
			raised++
		case algebra.Total(n) && len(n.Kids) > 0:
			total++
			if err != api.OK {
				t.Errorf("%d: %s", seed, valueAnswer(v, err))
			}
		}
	}
	if total < 2000 || raised < 200 {
		t.Errorf("%d are total, %d others raise something", total, raised)
	}
}

// P13.5, of queries: one of whose nodes none can raise anything raises nothing but that there are too many rows.
func TestTotalQueries(t *testing.T) {
	some := 0
	for seed := range 4000 {
		m := makerOf(140000 + seed)
		m.total = true
		_, p, ok := made(m, 1+m.Intn(4))
		if !ok || sums(p) {
			continue
		}
		d, w := m.both()
		if l, err := engine.Rows(d, w.vars, p); err != api.OK && err != api.ErrRows {
			t.Errorf("%d: %s", seed, rowsAnswer(l, err))
		} else if len(l) > 0 {
			some++
		}
	}
	if some < 1000 {
		t.Errorf("%d have rows", some)
	}
}

// sums tells whether a sum is gathered in a plan, which may be too great.
func sums(p api.Plan) bool {
	return slices.ContainsFunc(p.Aggs, func(g api.Gather) bool { return g.Fn == "sum" }) || slices.ContainsFunc(p.Kids, sums)
}
