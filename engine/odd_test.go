package engine_test

import (
	"math"
	"testing"

	"cordon/api"
	"cordon/engine"
)

// Nodes and plans that layer 10 does not make: something is answered, or an error, and nothing panics. What is not there is null, or no rows; kinds and marks that there are not are ErrArg.

func TestOddNodes(t *testing.T) {
	for _, c := range []struct {
		n    api.Node
		want string
	}{
		{api.Node{}, "ErrArg"}, {api.Node{Kind: -1}, "ErrArg"}, {api.Node{Kind: api.ExAgg, S: "count"}, "ErrArg"}, {api.Node{Kind: 16}, "ErrArg"}, {api.Node{Kind: math.MaxInt}, "ErrArg"}, {api.Node{Kind: math.MinInt}, "ErrArg"},
		{at(4), "null"}, {at(-1), "null"}, {at(math.MaxInt), "null"}, {at(math.MinInt), "null"},
		{node(api.ExNeg), "null"}, {node(api.ExNot), "null"}, {node(api.ExIs), "true"}, {marked(constant(1), "?", constant(2)), "ErrArg"}, {marked(constant(1), "", constant(2)), "ErrArg"},
		{api.Node{Kind: api.ExBin, S: "+", Kids: one(constant(1))}, "null"}, {api.Node{Kind: api.ExBin, S: "and", Kids: one(constant(false))}, "false"}, {api.Node{Kind: api.ExBin, S: "="}, "null"},
		{node(api.ExCase), "null"}, {node(api.ExCase, constant(true)), "null"}, {node(api.ExCase, constant(true), constant(1)), "1"}, {node(api.ExCase, constant(false), constant(1)), "null"}, {node(api.ExCase, constant(5), constant(1), constant(2)), "2"},
		{node(api.ExExists), "false"}, {node(api.ExScalar), "null"}, {node(api.ExIn), "false"}, {node(api.ExIn, constant(1)), "false"}, {asking(api.ExIn, told(row(nil))), "null"},
		{asking(api.ExScalar, told(row())), "null"}, {asking(api.ExScalar, told(row(1, 2))), "1"}, {asking(api.ExIn, told(row(1, 2)), constant(1)), "true"}, {asking(api.ExIn, told(row()), constant(1)), "null"},
		{asking(api.ExExists, api.Plan{}), "ErrArg"}, {asking(api.ExScalar, api.Plan{Kind: api.PlScan, N: 99}), "null"},
		{api.Node{Kind: api.ExBool, N: 5}, "false"}, {api.Node{Kind: api.ExVar}, "null"}, {api.Node{Kind: api.ExVar, S: "nosuch"}, "null"},
	} {
		check(t, c.n, does(c.n), c.want)
		check(t, c.n, runs(api.Plan{Kind: api.PlProject, Kids: one(scan(2)), E: one(node(api.ExCase, constant(false), c.n, constant(1))), Width: 1}), "(1)")
	}
	for _, n := range []api.Node{at(0), at(-1)} {
		check(t, n, valueAnswer(engine.Value(ours(), nil, nil, n)), "null")
	}
}

func TestOddPlans(t *testing.T) {
	wide := func(width int) api.Plan {
		p := pair(api.PlLeft, scan(2), scan(3), constant(true))
		p.Kids[1].Width = width
		return p
	}
	for _, c := range []struct {
		p    api.Plan
		want string
	}{
		{api.Plan{}, "ErrArg"}, {api.Plan{Kind: -1}, "ErrArg"}, {api.Plan{Kind: 16}, "ErrArg"}, {api.Plan{Kind: math.MaxInt}, "ErrArg"},
		{api.Plan{Kind: api.PlScan, N: -1}, "none"}, {api.Plan{Kind: api.PlScan, N: 7}, "none"}, {api.Plan{Kind: api.PlVisible, N: math.MinInt}, "none"}, {api.Plan{Kind: api.PlVisible, N: math.MaxInt}, "none"},
		{api.Plan{Kind: api.PlSelect}, "none"}, {above(api.PlSelect, scan(2)), "none"}, {above(api.PlSelect, scan(2), constant(1)), "none"}, {above(api.PlSelect, scan(2), constant("true")), "none"},
		{api.Plan{Kind: api.PlProject}, "none"}, {above(api.PlProject, scan(2)), "()"}, {above(api.PlProject, scan(2), at(9), at(-9)), "(null null)"},
		{api.Plan{Kind: api.PlJoin}, "none"}, {api.Plan{Kind: api.PlLeft}, "none"}, {above(api.PlJoin, scan(2)), "none"}, {above(api.PlLeft, scan(2)), "(5)"}, {pair(api.PlJoin, scan(2), scan(2)), "none"}, {pair(api.PlLeft, scan(2), scan(2)), "(5 null)"},
		{wide(-1), "(5)"}, {wide(math.MinInt), "(5)"}, {wide(0), "(5)"}, {wide(2), "(5 null null)"},
		{api.Plan{Kind: api.PlGroup}, "()"}, {api.Plan{Kind: api.PlGroup, Keys: one(0)}, "none"}, {api.Plan{Kind: api.PlGroup, Kids: one(scan(2)), Keys: one(5, -5, 0)}, "(null null 5)"},
		{api.Plan{Kind: api.PlGroup, Aggs: one(api.Gather{})}, "ErrArg"}, {api.Plan{Kind: api.PlGroup, Aggs: one(api.Gather{Fn: "avg"})}, "ErrArg"}, {api.Plan{Kind: api.PlGroup, Aggs: one(api.Gather{Fn: "sum"})}, "(null)"},
		{api.Plan{Kind: api.PlDistinct}, "none"}, {api.Plan{Kind: api.PlOrder}, "none"}, {above(api.PlOrder, scan(2)), "(5)"}, {above(api.PlOrder, told(row(2), row(1)), at(0)), "(1) (2)"},
		{api.Plan{Kind: api.PlLimit, N: 5}, "none"}, {api.Plan{Kind: api.PlLimit, Kids: one(scan(2)), N: -1}, "none"}, {api.Plan{Kind: api.PlLimit, Kids: one(scan(2)), N: math.MinInt}, "none"}, {api.Plan{Kind: api.PlLimit, Kids: one(scan(2)), N: math.MaxInt}, "(5)"},
		{api.Plan{Kind: api.PlUnionAll}, "none"}, {above(api.PlUnion, scan(2)), "(5)"}, {above(api.PlExcept, scan(2)), "(5)"}, {above(api.PlIntersect, scan(2)), "none"}, {pair(api.PlUnionAll, scan(2), told(row(1, 2), row(1, 2))), "(5) (1 2) (1 2)"},
		{pair(api.PlUnion, told(row(5)), told(row("5"))), "(5) ('5')"}, {pair(api.PlExcept, told(row()), told(row())), "none"},
		{api.Plan{Kind: api.PlUnionAll, Kids: one(scan(2), scan(2), scan(2))}, "(5) (5)"},
	} {
		check(t, c.p, runs(c.p), c.want)
	}
	for _, width := range []int{41, 1 << 40, math.MaxInt} { // as many nulls as there may be columns, at the most
		l, err := engine.Rows(ours(), nil, wide(width))
		if err != api.OK || len(l) != 1 || len(l[0]) > 1+api.MaxCols {
			t.Errorf("%d wide: %v", width, err)
		}
	}
}

// As deep as may be: 2^16 parts within one another.
func TestDeep(t *testing.T) {
	const deep = 1<<16 - 4
	for _, kind := range []int{api.PlSelect, api.PlDistinct, api.PlOrder, api.PlLimit, api.PlUnion, api.PlUnionAll, api.PlIntersect, api.PlProject} {
		p := scan(2)
		for range deep {
			p = above(kind, p)
			switch kind {
			case api.PlSelect:
				p.E = one(constant(true))
			case api.PlProject:
				p.E = one(at(0))
			case api.PlLimit:
				p.N = 5
			case api.PlIntersect:
				p.Kids = append(p.Kids, scan(2))
			}
		}
		check(t, kind, runs(p), "(5)")
		check(t, kind, does(asking(api.ExExists, p)), "true")
	}
	n, not, text := constant(1), constant(true), constant("")
	for range deep {
		n, not, text = marked(n, "-", constant(1)), node(api.ExNot, not), marked(constant(""), "||", text)
	}
	check(t, "numbers", does(n), "-65531")
	check(t, "not", does(not), "true")
	check(t, "texts", does(text), "''")
	n = constant(7)
	for range deep / 3 { // nodes and plans by turns
		n = asking(api.ExScalar, api.Plan{Kind: api.PlProject, Kids: one(api.Plan{Kind: api.PlOne}), E: one(node(api.ExNeg, n)), Width: 1})
	}
	check(t, "by turns", does(n), "7")
	bad := nodeOf(t, "1 / 0")
	for range deep {
		bad = node(api.ExCase, constant(true), bad, constant(1))
	}
	check(t, "an error", does(bad), "ErrZero")
}

// oddMaker makes nodes and plans of anything.
type oddMaker struct{ *maker }

func (m oddMaker) number() int {
	return pick(m.Rand, 0, 0, 1, 1, 2, 3, 4, 7, 41, -1, math.MaxInt, math.MinInt, 1<<40)
}

func (m oddMaker) node(deep int) api.Node {
	n := api.Node{Kind: m.Intn(18) - 1, N: m.number(), S: pick(m.Rand, append(marks, "", "i", "s", "?")...)}
	if deep > 0 {
		n.Kids = numbered(m.Intn(4), func(int) api.Node { return m.node(deep - 1) })
		n.Plans = numbered(m.Intn(2), func(int) api.Plan { return m.plan(deep - 1) })
	}
	return n
}

func (m oddMaker) plan(deep int) api.Plan {
	p := api.Plan{Kind: m.Intn(18) - 1, N: m.number(), Width: m.number()}
	if deep > 0 {
		p.Kids = numbered(m.Intn(4), func(int) api.Plan { return m.plan(deep - 1) })
	}
	p.E = numbered(m.Intn(3), func(int) api.Node { return m.node(deep - 1) })
	p.Keys = numbered(m.Intn(3), func(int) int { return m.number() })
	p.Desc = numbered(m.Intn(3), func(int) bool { return m.Intn(2) == 0 })
	p.Aggs = numbered(m.Intn(3), func(int) api.Gather {
		return api.Gather{Fn: pick(m.Rand, "count", "sum", "min", "max", "", "avg"), E: numbered(m.Intn(2), func(int) api.Node { return m.node(deep - 1) })}
	})
	return p
}

// odd is a value of which nothing is right.
func (m oddMaker) odd() api.Value {
	return api.Value{Type: m.Intn(6) - 1, N: m.number(), S: pick(m.Rand, "", "a", "\x00")}
}

// P1, P2, rules 3 and 6, of what is made of anything, over rows and variables of anything.
func TestOddMade(t *testing.T) {
	ends := map[string]int{}
	for seed := range 6000 {
		m := oddMaker{makerOf(200000 + seed)}
		n, p := m.node(m.Intn(4)), m.plan(m.Intn(4))
		r := numbered(m.Intn(4), func(int) api.Value { return m.odd() })
		vars := one(api.Bound{Name: "i", Value: m.odd()}, api.Bound{Name: "s", Value: m.odd()})
		d, _ := m.both()
		ends[standsAlone(t, d, vars, r, n, p)]++
		if t.Failed() {
			t.Fatalf("seed %d", seed)
		}
	}
	enough(t, ends, 300, "rows", "none", "ErrArg")
}
