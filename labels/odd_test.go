package labels_test

import (
	"math"
	"testing"

	"cordon/api"
	"cordon/labels"
)

// P1, of nodes and plans that layer 10 does not make: something is answered, and nothing panics. What is not there tells nothing: it is at Bottom, and can raise nothing.

func TestOddNodes(t *testing.T) {
	for _, c := range ours() {
		for _, x := range []struct {
			n    api.Node
			want string
		}{
			{api.Node{}, "low"}, {api.Node{Kind: -1}, "low"}, {api.Node{Kind: api.ExAgg, S: "sum"}, "low"}, {api.Node{Kind: 16}, "low"}, {api.Node{Kind: math.MaxInt}, "low"}, {api.Node{Kind: math.MinInt}, "low"},
			{node(0, at(a)), "a"}, {node(99, neg(a), at(b)), "high raises a"}, {asking(99, above(api.PlProject, scan(tableV), neg(low)), at(a)), "a raises b"},
			{at(-1), "low"}, {at(10), "low"}, {at(math.MaxInt), "low"}, {at(math.MinInt), "low"}, {api.Node{Kind: api.ExVar}, "low"}, {api.Node{Kind: api.ExVar, S: "nosuch"}, "low"},
			{node(api.ExNot), "low"}, {node(api.ExIs), "low"}, {node(api.ExNeg), "low raises low"}, {node(api.ExNeg, at(a), at(b)), "high raises high"}, {node(api.ExNeg, at(77)), "low raises low"},
			{node(api.ExBin), "low"}, {node(api.ExBin, at(a)), "a"}, {api.Node{Kind: api.ExBin, S: "?", Kids: one(at(a), at(b))}, "high"}, {api.Node{Kind: api.ExBin, S: "+"}, "low raises low"}, {api.Node{Kind: api.ExBin, S: "+", Kids: one(at(a))}, "a raises a"},
			{node(api.ExCase), "low"}, {node(api.ExCase, at(a)), "a"}, {node(api.ExCase, neg(a)), "a raises a"}, {node(api.ExCase, at(b), neg(a)), "high raises high"}, {node(api.ExCase, at(b), at(a)), "high"},
			{node(api.ExExists), "low"}, {node(api.ExIn), "low"}, {node(api.ExIn, at(a)), "a"}, {node(api.ExScalar), "low"}, {asking(api.ExIn, api.Plan{}), "low"}, {asking(api.ExScalar, api.Plan{}), "low raises low"},
			{asking(api.ExIn, api.Plan{Kind: api.PlOne}, at(a)), "a"}, {asking(api.ExScalar, api.Plan{Kind: api.PlOne}), "low raises low"}, {asking(api.ExScalar, scan(99)), "low raises low"}, {asking(api.ExIn, scan(tableU)), "a"},
		} {
			check(t, x.n, nodeTold(c, x.n), x.want)
		}
		check(t, "no columns", markTold(c, labels.Node(c, nil, nil, neg(0))), "low raises low")
	}
}

func TestOddPlans(t *testing.T) {
	shapes(t,
		shape{api.Plan{}, "low:"}, shape{api.Plan{Kind: -1}, "low:"}, shape{api.Plan{Kind: 16}, "low:"}, shape{api.Plan{Kind: math.MaxInt}, "low:"}, shape{above(99, scan(tableV)), "b: low b"},
		shape{scan(-1), "low:"}, shape{scan(5), "low:"}, shape{scan(math.MaxInt), "low:"}, shape{visible(math.MinInt), "low:"}, shape{visible(5), "low:"},
		shape{api.Plan{Kind: api.PlSelect}, "low:"}, shape{above(api.PlSelect, scan(tableV)), "b: low b"}, shape{above(api.PlSelect, scan(tableV), at(-1)), "b: low b"}, shape{above(api.PlSelect, visible(tableV), neg(2)), "low: low b raises low"},
		shape{api.Plan{Kind: api.PlProject}, "low:"}, shape{api.Plan{Kind: api.PlProject, E: one(at(0), neg(0))}, "low: low low raises low"}, shape{above(api.PlProject, scan(tableV), at(2), at(-1), at(1)), "b: low low b"},
		shape{api.Plan{Kind: api.PlJoin}, "low:"}, shape{above(api.PlJoin, scan(tableV)), "b: low b"}, shape{above(api.PlLeft, scan(tableV), neg(0)), "b: low b raises b"}, shape{api.Plan{Kind: api.PlLeft, E: one(neg(3))}, "low: raises low"},
		shape{api.Plan{Kind: api.PlGroup}, "low:"}, shape{api.Plan{Kind: api.PlGroup, Keys: one(0), Aggs: one(gather("sum", at(0)))}, "low: low low raises low"}, shape{group(visible(tableV), one(-1, 2, 1, math.MaxInt)), "b: low low b low"}, shape{group(visible(tableV), nil, gather("sum")), "low: low raises low"}, shape{group(visible(tableV), nil, gather(""), gather("avg", at(1))), "low: low b"},
		shape{api.Plan{Kind: api.PlDistinct}, "low:"}, shape{api.Plan{Kind: api.PlOrder}, "low:"}, shape{api.Plan{Kind: api.PlLimit, N: -1}, "low:"}, shape{api.Plan{Kind: api.PlLimit, N: math.MinInt, Kids: one(scan(tableV))}, "b: low b"},
		shape{api.Plan{Kind: api.PlUnion}, "low:"}, shape{api.Plan{Kind: api.PlUnionAll}, "low:"}, shape{api.Plan{Kind: api.PlExcept}, "low:"}, shape{api.Plan{Kind: api.PlIntersect}, "low:"}, shape{above(api.PlUnionAll, scan(tableV)), "b: low b"}, shape{above(api.PlExcept, visible(tableV)), "b: low b"},
		shape{pair(api.PlUnionAll, scan(tableU), visible(tableV)), "a: a high high high"}, shape{pair(api.PlUnionAll, visible(tableV), scan(tableU)), "a: a high"}, shape{pair(api.PlIntersect, visible(tableV), api.Plan{Kind: api.PlOne}), "b: low b"}, shape{pair(api.PlExcept, api.Plan{Kind: api.PlOne}, visible(tableV)), "b:"},
		shape{api.Plan{Kind: api.PlUnionAll, Kids: one(scan(tableK), scan(tableK), scan(tableM))}, "b: b"},
	)
}

// Levels that are none: a mark, or a sheet, has none where they would be in it, and what else it tells stays.
func TestOddLevels(t *testing.T) {
	for _, c := range ours() {
		for _, odd := range []int{-1, 4, 99, math.MaxInt, math.MinInt} {
			vars, cols := one(api.Named{Name: "va", Level: odd}), one(odd, levelOf(c, "a"))
			for _, x := range []struct {
				n    api.Node
				want string
			}{
				{at(0), "-1"}, {neg(0), "-1 raises -1"}, {at(1), "a"}, {api.Node{Kind: api.ExVar, S: "va"}, "-1"}, {node(api.ExCase, neg(1), at(0), at(1)), "-1 raises a"}, {node(api.ExNot, node(api.ExNot, at(0))), "-1"},
				{asking(api.ExExists, above(api.PlSelect, scan(tableV), api.Node{Kind: api.ExVar, S: "va"})), "-1"},
			} {
				check(t, x.n, markTold(c, labels.Node(c, vars, cols, x.n)), x.want)
			}
			check(t, odd, sheetTold(c, labels.Plan(c, vars, planOf(t, c, "select ia as x, :va as y from t"))), "low: a -1")
			check(t, odd, sheetTold(c, labels.Plan(c, vars, planOf(t, c, "select ia as x from t where i > :va order by -x"))), "-1: a raises -1")
		}
	}
}

// As deep as may be: 2^16 parts within one another.
func TestDeep(t *testing.T) {
	const deep = 1<<16 - 4
	c := ours()[1]
	for kind, want := range map[int]string{api.PlSelect: "b: b raises b", api.PlOrder: "b: b raises b", api.PlProject: "b: b raises b", api.PlDistinct: "b: b", api.PlLimit: "b: b", api.PlUnion: "b: b", api.PlUnionAll: "b: b", api.PlExcept: "b: b", api.PlGroup: "b: b b raises b"} {
		p := scan(tableK)
		for range deep {
			switch kind {
			case api.PlUnion, api.PlUnionAll, api.PlExcept:
				p = pair(kind, scan(tableK), p)
			case api.PlGroup:
				p = group(p, one(0), gather("sum", at(0)))
			case api.PlDistinct, api.PlLimit:
				p = above(kind, p)
			default:
				p = above(kind, p, neg(0))
			}
		}
		check(t, kind, planTold(c, p), want)
	}
	for _, kind := range []int{api.PlJoin, api.PlLeft} { // of tables without columns, as 2^16 times 2^16 columns would be too many
		p := above(api.PlProject, scan(tableK))
		for range deep {
			p = pair(kind, above(api.PlProject, scan(tableU)), p, neg(0))
		}
		check(t, kind, planTold(c, p), "high: raises high")
	}
	n, not, either := at(a), at(a2), at(a2)
	for range deep {
		n, not, either = node(api.ExNeg, n), node(api.ExNot, not), node(api.ExCase, at(low2), at(b2), either)
	}
	check(t, "neg", nodeTold(c, n), "a raises a")
	check(t, "not", nodeTold(c, not), "a")
	check(t, "case", nodeTold(c, either), "high")
	n = at(a)
	for range deep / 3 { // nodes and plans by turns
		n = asking(api.ExScalar, above(api.PlProject, scan(tableK), node(api.ExNot, n)))
	}
	check(t, "by turns", nodeTold(c, n), "b raises b")
}

// A great many parts beside one another.
func TestWide(t *testing.T) {
	c := ours()[2]
	nodes := numbered(1<<16, func(i int) api.Node { return at(i % 3) })
	sheet := labels.Plan(c, nil, above(api.PlProject, scan(tableT), nodes...))
	if len(sheet.Cols) != 1<<16 || nameOf(c, sheet.Cols[1<<16-2]) != "b" || nameOf(c, sheet.Rows) != "low" {
		t.Errorf("%d columns", len(sheet.Cols))
	}
	check(t, "case", nodeTold(c, node(api.ExCase, nodes...)), "high")
	p := planTold(c, above(api.PlDistinct, above(api.PlProject, group(scan(tableT), numbered(1<<16, func(i int) int { return i % 2 })), at(1<<16-1))))
	check(t, "group", p, "a: a")
}

// oddMaker makes nodes and plans of anything.
type oddMaker struct{ *maker }

func (m oddMaker) number() int {
	return pick(m.Rand, 0, 0, 1, 1, 2, 3, 4, 7, 41, -1, math.MaxInt, math.MinInt, 1<<40)
}

func (m oddMaker) node(deep int) api.Node {
	n := api.Node{Kind: m.Intn(18) - 1, N: m.number(), S: pick(m.Rand, "", "i", "s", "+", "||", "=", "and", "?")}
	if deep > 0 {
		n.Kids = numbered(m.Intn(4), func(int) api.Node { return m.node(deep - 1) })
		n.Plans = numbered(m.Intn(3), func(int) api.Plan { return m.plan(deep - 1) })
	}
	return n
}

func (m oddMaker) plan(deep int) api.Plan {
	p := api.Plan{Kind: m.Intn(18) - 1, N: m.number(), Width: m.number()}
	if deep > 0 {
		p.Kids = numbered(m.Intn(4), func(int) api.Plan { return m.plan(deep - 1) })
	}
	p.E = numbered(m.Intn(3), func(int) api.Node { return m.node(deep - 1) })
	p.Keys = numbered(m.Intn(3), func(int) int { return m.number() })
	p.Desc = numbered(m.Intn(3), func(int) bool { return m.Intn(2) == 0 })
	p.Aggs = numbered(m.Intn(3), func(int) api.Gather {
		return api.Gather{Fn: pick(m.Rand, "count", "sum", "min", "max", "", "avg"), E: numbered(m.Intn(2), func(int) api.Node { return m.node(deep - 1) })}
	})
	return p
}

// P1, P2, rules 3 and 6, of what is made of anything. Where all levels that are handed in are levels, all that is told are levels, and P17.3 holds.
func TestOddMade(t *testing.T) {
	for seed := range 2000 {
		m := oddMaker{makerOf(100000 + seed).anyWorld()}
		n, p := m.node(m.Intn(4)), m.plan(m.Intn(4))
		mark, sheet := standsAlone(t, m.world, n, p)
		l := m.c.Lattice()
		for _, level := range levelsOf(mark, sheet) {
			if !l.Leq(level, level) {
				t.Errorf("%d is no level", level)
			}
		}
		if !mark.Can && mark.Raise != l.Bottom() || !sheet.Can && sheet.Raise != l.Bottom() {
			t.Errorf("%v and %v raise nothing, above Bottom", mark, sheet)
		}
		markOf, sheetOf := bothOf(m.raised(true, true, true), made{n: n, p: p})
		notLower(t, l, levelsOf(mark, sheet), levelsOf(markOf, sheetOf))
		m.cols = numbered(m.Intn(4), func(int) int { return m.number() })
		m.vars = numbered(m.Intn(4), func(int) api.Named { return api.Named{Name: pick(m.Rand, "i", "s", ""), Level: m.number()} })
		standsAlone(t, m.world, n, p)
		if t.Failed() {
			t.Fatalf("seed %d", seed)
		}
	}
}
