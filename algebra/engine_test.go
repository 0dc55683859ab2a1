package algebra_test

import (
	"fmt"
	"math/rand"
	"slices"
	"testing"

	"cordon/algebra"
	"cordon/api"
	"cordon/value"
)

// What a plan gives (13), as far as P10.5 asks for it: rows, or an error, which is a panic on the way.

type db struct {
	rows [][][]api.Value // of each table
	vars map[string]api.Value
}

func must(v api.Value, err api.Errno) api.Value {
	if err != api.OK {
		panic(err)
	}
	return v
}

// gives is what a plan gives, as a text.
func (d db) gives(p api.Plan) (out string) {
	defer func() {
		switch r := recover().(type) {
		case nil:
		case api.Errno:
			out = r.Error()
		default:
			panic(r)
		}
	}()
	return fmt.Sprint(d.all(p))
}

func (d db) value(row []api.Value, n api.Node) api.Value {
	kid := func(i int) api.Value { return d.value(row, n.Kids[i]) }
	switch n.Kind {
	case api.ExNull:
		return value.Null()
	case api.ExBool:
		return value.Bool(n.N == 1)
	case api.ExInt:
		return value.Int(n.N)
	case api.ExText:
		return value.Text(n.S)
	case api.ExCol:
		return row[n.N]
	case api.ExVar:
		return d.vars[n.S]
	case api.ExNeg:
		return must(value.Neg(kid(0)))
	case api.ExNot:
		return must(value.Not(kid(0)))
	case api.ExIs:
		return value.Bool((kid(0) == value.Null()) == (n.N == 0))
	case api.ExBin:
		return operated(n.S, kid(0), kid(1))
	case api.ExCase:
		if value.True(kid(0)) {
			return kid(1)
		}
		return kid(2)
	}
	return d.asked(row, n)
}

func operated(mark string, a, b api.Value) api.Value {
	not := func(v api.Value) api.Value { return must(value.Not(v)) }
	switch mark {
	case "=":
		return must(value.Eq(a, b))
	case "<>":
		return not(must(value.Eq(a, b)))
	case "<":
		return must(value.Less(a, b))
	case ">":
		return must(value.Less(b, a))
	case "<=":
		return not(must(value.Less(b, a)))
	case ">=":
		return not(must(value.Less(a, b)))
	}
	return must(map[string]func(a, b api.Value) (api.Value, api.Errno){
		"or": value.Or, "and": value.And, "+": value.Add, "-": value.Sub, "*": value.Mul, "/": value.Div, "%": value.Mod, "||": value.Concat,
	}[mark](a, b))
}

// asked is what a node with a plan comes to.
func (d db) asked(row []api.Value, n api.Node) api.Value {
	var kid api.Value
	if n.Kind == api.ExIn {
		kid = d.value(row, n.Kids[0])
	}
	rows := d.all(n.Plans[0])
	switch n.Kind {
	case api.ExExists:
		return value.Bool(len(rows) > 0)
	case api.ExScalar:
		if len(rows) > 1 {
			panic(api.ErrSingle)
		}
		if len(rows) == 0 {
			return value.Null()
		}
		return rows[0][0]
	}
	found := value.Bool(false)
	for _, r := range rows {
		found = must(value.Or(found, must(value.Eq(kid, r[0]))))
	}
	if n.N == 1 {
		return must(value.Not(found))
	}
	return found
}

func (d db) holds(row []api.Value, n api.Node) bool { return value.True(d.value(row, n)) }

func (d db) all(p api.Plan) [][]api.Value {
	var kids [2][][]api.Value
	for i, kid := range p.Kids {
		kids[i] = d.all(kid)
	}
	a, b := kids[0], kids[1]
	var out [][]api.Value
	switch p.Kind {
	case api.PlOne:
		return one([]api.Value{})
	case api.PlScan:
		return d.rows[p.N]
	case api.PlVisible:
		return slices.DeleteFunc(slices.Clone(d.rows[p.N]), func(r []api.Value) bool { return r[0] == value.Int(1) })
	case api.PlSelect:
		for _, r := range a {
			if d.holds(r, p.E[0]) {
				out = append(out, r)
			}
		}
	case api.PlProject:
		for _, r := range a {
			out = append(out, d.row(r, p.E))
		}
	case api.PlJoin, api.PlLeft:
		return d.joined(p, a, b)
	case api.PlGroup:
		return d.grouped(p, a)
	case api.PlDistinct:
		return distinctRows(a)
	case api.PlOrder:
		return d.sorted(p, a)
	case api.PlLimit:
		return a[:min(len(a), p.N)]
	case api.PlUnion, api.PlUnionAll:
		if len(a)+len(b) > api.MaxResult {
			panic(api.ErrRows)
		}
		if out = slices.Concat(a, b); p.Kind == api.PlUnion {
			return distinctRows(out)
		}
	case api.PlExcept, api.PlIntersect:
		for _, r := range distinctRows(a) {
			if slices.ContainsFunc(b, func(o []api.Value) bool { return slices.Equal(r, o) }) == (p.Kind == api.PlIntersect) {
				out = append(out, r)
			}
		}
	default:
		panic("no such plan")
	}
	return out
}

func (d db) row(r []api.Value, nodes []api.Node) []api.Value {
	return numbered(len(nodes), func(i int) api.Value { return d.value(r, nodes[i]) })
}

func distinctRows(l [][]api.Value) [][]api.Value {
	var out [][]api.Value
	for _, r := range l {
		if !slices.ContainsFunc(out, func(o []api.Value) bool { return slices.Equal(r, o) }) {
			out = append(out, r)
		}
	}
	return out
}

func (d db) joined(p api.Plan, a, b [][]api.Value) [][]api.Value {
	if len(a)*len(b) > api.MaxPairs {
		panic(api.ErrRows)
	}
	var out [][]api.Value
	for _, x := range a {
		ahead := len(out)
		for _, y := range b {
			if both := slices.Concat(x, y); d.holds(both, p.E[0]) {
				out = append(out, both)
			}
		}
		if p.Kind == api.PlLeft && len(out) == ahead {
			out = append(out, slices.Concat(x, make([]api.Value, p.Kids[1].Width)))
		}
	}
	if len(out) > api.MaxResult {
		panic(api.ErrRows)
	}
	return out
}

func (d db) sorted(p api.Plan, rows [][]api.Value) [][]api.Value {
	keys := numbered(len(rows), func(i int) []api.Value { return d.row(rows[i], p.E) })
	order := numbered(len(rows), func(i int) int { return i })
	slices.SortStableFunc(order, func(i, j int) int {
		for k := range p.E {
			by := value.Order(keys[i][k], keys[j][k])
			if p.Desc[k] {
				by = -by
			}
			if by != 0 {
				return by
			}
		}
		return 0
	})
	return numbered(len(rows), func(i int) []api.Value { return rows[order[i]] })
}

func (d db) grouped(p api.Plan, rows [][]api.Value) [][]api.Value {
	gathered := numbered(len(rows), func(i int) []api.Value {
		return numbered(len(p.Aggs), func(j int) api.Value {
			if len(p.Aggs[j].E) == 0 {
				return value.Bool(true)
			}
			return d.value(rows[i], p.Aggs[j].E[0])
		})
	})
	var keys [][]api.Value
	groups := map[string][]int{}
	for i, r := range rows {
		key := numbered(len(p.Keys), func(j int) api.Value { return r[p.Keys[j]] })
		if groups[fmt.Sprint(key)] == nil {
			keys = append(keys, key)
		}
		groups[fmt.Sprint(key)] = append(groups[fmt.Sprint(key)], i)
	}
	if len(p.Keys) == 0 {
		keys = one([]api.Value(nil))
	}
	return numbered(len(keys), func(i int) []api.Value {
		return slices.Concat(keys[i], numbered(len(p.Aggs), func(j int) api.Value {
			var l []api.Value
			for _, at := range groups[fmt.Sprint(keys[i])] {
				l = append(l, gathered[at][j])
			}
			return folded(p.Aggs[j].Fn, l)
		}))
	})
}

func folded(fn string, l []api.Value) api.Value {
	l = slices.DeleteFunc(l, func(v api.Value) bool { return v == value.Null() })
	if fn == "count" {
		return value.Int(len(l))
	}
	if len(l) == 0 {
		return value.Null()
	}
	out := l[0]
	for _, v := range l[1:] {
		switch by := value.Order(v, out); {
		case fn == "sum":
			out = must(value.Add(out, v))
		case fn == "min" && by < 0, fn == "max" && by > 0:
			out = v
		}
	}
	return out
}

// ourRows are rows of our schema's tables, made at random of few values.
func ourRows(rnd *rand.Rand) db {
	d := db{vars: map[string]api.Value{"n": value.Null(), "b": value.Bool(rnd.Intn(2) == 0), "i": value.Int(rnd.Intn(3)), "s": value.Text(pick(rnd, "", "a"))}}
	for _, t := range ourSchema().Tables {
		d.rows = append(d.rows, numbered(rnd.Intn(7), func(int) []api.Value {
			return numbered(len(t.Cols), func(i int) api.Value {
				if t.Cols[i].Null && rnd.Intn(3) == 0 {
					return value.Null()
				}
				return one(value.Null(), value.Bool(rnd.Intn(2) == 0), value.Int(rnd.Intn(4)-1), value.Text(pick(rnd, "", "a", "b")))[t.Cols[i].Type]
			})
		}))
	}
	return d
}

// givesTheSame holds P10.5 of a plan; it tells whether Norm turned it, and what it gives.
func givesTheSame(t *testing.T, d db, p api.Plan) (bool, string) {
	t.Helper()
	norm := algebra.Norm(p)
	want, got := d.gives(p), d.gives(norm)
	if many := api.ErrRows.Error(); got != want && got != many && want != many {
		t.Errorf("%s gives %s, %s gives %s", planTold(p), want, planTold(norm), got)
	}
	return planTold(p) != planTold(norm), want
}

// P10.5, of queries made at random.
func TestSameOfMade(t *testing.T) {
	w, m, turned, rows := ours(), ourMaker(106, 0), 0, 0
	for range 6000 {
		p, err := algebra.Plan(w.c, w.vars, m.query(m.kinds(3), 1+m.rnd.Intn(3)))
		if err != api.OK {
			continue
		}
		is, gives := givesTheSame(t, ourRows(m.rnd), p)
		if is {
			turned++
		}
		if is && gives != "[]" {
			rows++
		}
		if t.Failed() {
			return
		}
	}
	if turned < 300 || rows < 100 {
		t.Errorf("%d are turned, %d of them give something", turned, rows)
	}
}

// planMaker makes plans at random over tables of numbers, of which Norm has much to turn.
type planMaker struct{ rnd *rand.Rand }

func (m planMaker) number(width int) api.Node {
	if width > 0 && m.rnd.Intn(3) > 0 {
		return at(m.rnd.Intn(width))
	}
	return pick(m.rnd, constant(m.rnd.Intn(3)), varNode("i"), api.Node{Kind: api.ExNull})
}

// truth is a condition over some columns; one in a few may raise something.
func (m planMaker) truth(from, width, deep int) api.Node {
	part := func() api.Node { return m.truth(from, width, deep-1) }
	num := func() api.Node {
		n := m.number(width)
		if n.Kind == api.ExCol {
			n.N += from
		}
		return n
	}
	switch k := m.rnd.Intn(16); {
	case k < 2:
		return truth(m.rnd.Intn(2))
	case k == 2:
		return marked(marked(constant(6), pick(m.rnd, "/", "%"), num()), pick(m.rnd, "=", "<"), num())
	case k == 3:
		return api.Node{Kind: api.ExIs, N: m.rnd.Intn(2), Kids: one(num())}
	case k == 4 && deep > 1:
		return kindOf(api.ExNot, part())
	case k == 5 && deep > 1:
		return kindOf(api.ExCase, part(), part(), part())
	case k < 8 && deep > 1:
		return marked(part(), pick(m.rnd, "or", "and"), part())
	case k == 8 && deep > 1:
		return asking(api.ExExists, m.plan(2))
	}
	return marked(num(), pick(m.rnd, "=", "<>", "<", "<=", ">", ">="), num())
}

func (m planMaker) plan(deep int) api.Plan {
	if deep <= 1 {
		return pick(m.rnd, scan(0, 1), scan(1, 2), scan(2, 2), api.Plan{Kind: api.PlVisible, N: 1, Width: 2}, api.Plan{Kind: api.PlOne})
	}
	kid := m.plan(deep - 1)
	switch m.rnd.Intn(11) {
	case 0:
		return limited(kid, m.rnd.Intn(4))
	case 1:
		return distinct(kid)
	case 2:
		return ordered(kid, numbered(m.rnd.Intn(3), func(int) api.Node { return m.number(kid.Width) })...)
	case 3:
		return project(kid, numbered(1+m.rnd.Intn(2), func(int) api.Node { return m.number(kid.Width) })...)
	case 4, 5:
		b := m.plan(1 + m.rnd.Intn(deep-1))
		return pair(pick(m.rnd, api.PlJoin, api.PlJoin, api.PlLeft), kid, b, m.truth(0, kid.Width+b.Width, 2))
	case 6:
		b := m.plan(1 + m.rnd.Intn(deep-1))
		a := project(kid, m.number(kid.Width))
		return pair(pick(m.rnd, api.PlUnion, api.PlUnionAll, api.PlExcept, api.PlIntersect), a, project(b, m.number(b.Width)))
	case 7:
		p := api.Plan{Kind: api.PlGroup, Kids: one(kid), Aggs: one(api.Gather{Fn: pick(m.rnd, "count", "sum", "min", "max"), E: one(m.number(kid.Width))}), Width: 1}
		if kid.Width > 0 {
			p.Keys, p.Width = one(m.rnd.Intn(kid.Width)), 2
		}
		return p
	}
	if kid.Kind == api.PlJoin && m.rnd.Intn(3) > 0 { // of one side alone
		first := kid.Kids[0].Width
		return pick(m.rnd, chosen(kid, m.truth(0, first, 2)), chosen(kid, m.truth(first, kid.Width-first, 2)))
	}
	return chosen(kid, m.truth(0, kid.Width, 2))
}

// P10.5, of plans made at random; P10.4 and P10.6 of them, too.
func TestSameOfPlans(t *testing.T) {
	m, turned, raised := planMaker{rand.New(rand.NewSource(107))}, 0, 0
	for range 30000 {
		d := db{vars: map[string]api.Value{"i": value.Int(1)}}
		for _, width := range []int{1, 2, 2} {
			d.rows = append(d.rows, numbered(m.rnd.Intn(5), func(int) []api.Value {
				return numbered(width, func(int) api.Value {
					return pick(m.rnd, value.Null(), value.Int(0), value.Int(1), value.Int(2), value.Int(3))
				})
			}))
		}
		p := m.plan(1 + m.rnd.Intn(7))
		normHolds(t, p)
		is, gives := givesTheSame(t, d, p)
		if is {
			turned++
		}
		if is && gives == api.ErrZero.Error() {
			raised++
		}
		if t.Failed() {
			return
		}
	}
	if turned < 5000 || raised < 150 {
		t.Errorf("%d are turned, %d of them raise something", turned, raised)
	}
}

// P10.5, where it hangs on what a rule asks: with the rule one step wider other rows, or errors, would come.
func TestSameAtEdges(t *testing.T) {
	n := func(l ...int) []api.Value { return numbered(len(l), func(i int) api.Value { return value.Int(l[i]) }) }
	d := db{rows: [][][]api.Value{{n(1), n(2), n(1), n(0)}, {n(1, 5), n(0, 6), n(3, 7)}}, vars: map[string]api.Value{"i": value.Int(1)}}
	a, b := scan(0, 1), scan(1, 2)
	div := func(place int) api.Node { return marked(marked(constant(6), "/", at(place)), ">", constant(2)) }
	for _, p := range []api.Plan{
		chosen(pair(api.PlLeft, a, b, eq(0, 1)), kindOf(api.ExIs, at(1))),
		chosen(pair(api.PlLeft, a, b, eq(0, 1)), marked(at(2), ">", constant(5))),
		chosen(join(a, b, div(0)), marked(at(0), ">", constant(0))),
		chosen(join(a, b, div(1)), marked(at(1), ">", constant(0))),
		chosen(join(a, b, eq(0, 1)), div(0)),
		chosen(join(chosen(a, marked(at(0), "<", constant(0))), b, eq(0, 1)), div(1)),
		chosen(join(a, b, eq(0, 1)), eq(0, 2)),
		limited(chosen(limited(a, 1), marked(at(0), "=", constant(2))), 3),
		limited(limited(a, 3), 1), limited(limited(a, 1), 3), limited(limited(a, 0), 2),
		distinct(limited(a, 3)), limited(distinct(a), 3), distinct(pair(api.PlUnionAll, a, a)), distinct(project(distinct(b), constant(1))),
		ordered(ordered(a, at(0))), ordered(a, constant(1)), chosen(a, truth(0)), chosen(a, api.Node{Kind: api.ExNull}),
		chosen(join(a, b, truth(1)), truth(0)), chosen(join(a, b, truth(1)), marked(varNode("i"), "=", constant(1))),
	} {
		givesTheSame(t, d, p)
		givesTheSame(t, d, ordered(chosen(p, truth(1))))
	}
}
