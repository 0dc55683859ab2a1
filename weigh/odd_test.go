package weigh_test

import (
	"fmt"
	"slices"
	"testing"

	"cordon/api"
)

// P21.1, and P1: a plan with fewer, or more, kids than its kind has costs nothing, whatever stands in it.
func TestKids(t *testing.T) {
	sizes := list(5)
	full := func(kind, kids int) api.Plan {
		p := api.Plan{Kind: kind, Keys: list(0), N: 0, Width: 1}
		for range kids {
			p.Kids = append(p.Kids, scan(0))
		}
		if kind == api.PlLimit {
			p.N = 5
		}
		return gathers(with(p, asks(scan(0))), asks(scan(0)))
	}
	for kids, kinds := range list(leaves, single, double) {
		for _, kind := range kinds {
			for n := range 6 {
				got := weighed(sizes, full(kind, n))
				if n != kids && got != (at{}) {
					t.Errorf("%d with %d kids: %v", kind, n, got)
				}
				if n == kids && (got.steps <= 0 || got.rows <= 0) {
					t.Errorf("%d with its %d kids: %v", kind, n, got)
				}
			}
		}
	}
}

// A kind is of one of the lists, and there is no other one.
func TestKinds(t *testing.T) {
	all := slices.Concat(leaves, single, double)
	slices.Sort(all)
	if !slices.Equal(all, numbered(api.PlIntersect, func(i int) int { return i + 1 })) {
		t.Error(all)
	}
	for _, kind := range list(least, -16, -15, -2, -1, 0, 16, 17, 18, 31, 256+api.PlOne, 1<<32+api.PlScan, greatest) {
		for n := range 4 {
			p := api.Plan{Kind: kind, Keys: list(0), Kids: numbered(n, func(int) api.Plan { return one() })}
			holds(t, list(5), testCase{fmt.Sprint(kind, " with ", n, " kids"), gathers(with(p, asks(one())), asks(one())), at{}})
		}
	}
}

// A plan that costs nothing, as it is none, is taken as such where it stands in others.
func TestNoneWithin(t *testing.T) {
	none := api.Plan{Kind: 77, Kids: list(scan(0), scan(0))}
	few := over(api.PlUnionAll, scan(0))
	holds(t, list(5),
		testCase{"nothing", api.Plan{}, at{}},
		testCase{"a kid", over(api.PlSelect, none), at{}},
		testCase{"a kid with too few kids", over(api.PlDistinct, few), at{}},
		testCase{"one group of it", over(api.PlGroup, none), at{0, 1}},
		testCase{"the first of a join", over(api.PlJoin, none, scan(0)), at{5, 0}},
		testCase{"the second of a join", over(api.PlJoin, scan(0), few), at{5, 0}},
		testCase{"the second of a left join", over(api.PlLeft, scan(0), none), at{5, 5}},
		testCase{"beside another one", over(api.PlUnion, few, scan(0)), at{10, 5}},
		testCase{"in a node", with(over(api.PlSelect, scan(0)), asks(none, few)), at{10, 5}},
	)
}

// P1: plans that stand deep in one another are weighed to the end.
func TestDeep(t *testing.T) {
	const deep = 1 << 15
	kids, nodes, plans, both := scan(0), within(), scan(0), scan(0)
	for range deep {
		kids = over(api.PlOrder, kids)
		nodes = within(nodes)
		plans = with(over(api.PlProject, one()), asks(plans))
		both = over(api.PlUnionAll, both, scan(1))
	}
	nodes.Kids = append(nodes.Kids, asks(scan(0)))
	holds(t, list(3),
		testCase{"kids", kids, at{3 * (deep + 1), 3}},
		testCase{"nodes", with(over(api.PlSelect, scan(0)), nodes), at{6 + 9, 3}},
		testCase{"plans in nodes", plans, at{3 + 2*deep, 1}},
		testCase{"both kids", both, at{3 * (deep + 1), 3}},
	)
}

// Many kids' rows, nodes and plans, one beside the other.
func TestWide(t *testing.T) {
	const wide = 20000
	p := with(over(api.PlProject, scan(0)), numbered(wide, func(int) api.Node { return asks(one()) })...)
	q := with(over(api.PlProject, scan(0)), asks(numbered(wide, func(int) api.Plan { return one() })...))
	r := gathers(over(api.PlGroup, scan(0)), numbered(wide, func(int) api.Node { return asks(one()) })...)
	s := over(api.PlSelect, numbered(wide, func(int) api.Plan { return one() })...)
	holds(t, list(3),
		testCase{"nodes", p, at{6 + 3*wide, 3}}, testCase{"plans", q, at{6 + 3*wide, 3}},
		testCase{"gathered", r, at{6 + 3*wide, 1}}, testCase{"kids", s, at{}},
	)
}
