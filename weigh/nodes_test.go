package weigh_test

import (
	"fmt"
	"testing"

	"cordon/api"
)

// P21.1, of nodes with plans: of a kid with 4 steps and rows, where plans of 5 steps (3 rows), 2 and 1 stand in nodes.
func TestNodes(t *testing.T) {
	sizes := list(4, 2, 0, 1)
	five := func() api.Plan { return over(api.PlUnionAll, over(api.PlGroup, scan(2)), scan(1)) } // 2, and 3 more
	two, one := scan(1), scan(3)
	holds(t, sizes, testCase{"a plan of 5 steps", five(), at{5, 3}})
	for _, kind := range list(api.PlSelect, api.PlProject, api.PlDistinct, api.PlOrder) {
		p := func() api.Plan { return over(kind, scan(0)) }
		deep := asks(with(over(api.PlProject, two), asks(five(), two))) // 2 and 2, and 2 times 7
		cases := []testCase{
			{"a node without plans", with(p(), within(within())), at{8, 4}},
			{"one plan", with(p(), asks(five())), at{8 + 20, 4}},
			{"a plan without steps", with(p(), asks(scan(2))), at{8, 4}},
			{"a plan of one step", with(p(), asks(one)), at{12, 4}},
			{"a node within nodes", with(p(), within(within(), within(asks(five())))), at{8 + 20, 4}},
			{"several in one node", with(p(), asks(five(), two, one)), at{8 + 32, 4}},
			{"nodes within a node with a plan", with(p(), api.Node{Kind: api.ExIn, Kids: list(asks(two), asks(one)), Plans: list(five())}), at{8 + 32, 4}},
			{"several nodes", with(p(), asks(five()), within(asks(two)), asks(one)), at{8 + 32, 4}},
			{"nodes that are gathered", gathers(p(), asks(five()), within(asks(two))), at{8 + 28, 4}},
			{"both", gathers(with(p(), asks(one)), asks(five()), within(asks(two))), at{8 + 32, 4}},
			{"several nodes in what is gathered", api.Plan{Kind: kind, Kids: list(scan(0)), Aggs: list(api.Gather{E: list(asks(one), asks(two))}, api.Gather{})}, at{8 + 12, 4}},
			{"a plan whose nodes have plans", with(p(), deep), at{8 + 4*18, 4}},
			{"a plan whose kid has plans", with(p(), asks(over(api.PlSelect, with(over(api.PlSelect, one), asks(five()))))), at{8 + 4*8, 4}},
			{"a plan that is none", with(p(), asks(api.Plan{Kind: 99}, five())), at{8 + 20, 4}},
			{"a node of no kind", with(p(), api.Node{Kind: -7, N: 3, S: "?", Plans: list(five())}), at{8 + 20, 4}},
			{"a column with a plan", with(p(), api.Node{Kind: api.ExCol, Plans: list(five())}), at{8 + 20, 4}},
		}
		for i := range cases {
			cases[i].name = fmt.Sprint(kind, ": ", cases[i].name)
		}
		holds(t, sizes, cases...)
		holds(t, sizes,
			testCase{"over no rows", gathers(with(over(kind, scan(2)), asks(five())), asks(five())), at{0, 0}},
			testCase{"over one row", gathers(with(over(kind, scan(3)), asks(five())), asks(two)), at{2 + 7, 1}},
			testCase{"over as many rows as the kid has, not steps", with(over(kind, limit(3, scan(0))), asks(five())), at{8 + 3 + 15, 3}},
		)
	}
}

// P21.1, of nodes with plans in plans of the other kinds with one kid: each row of the kid counts, not those that come of it.
func TestNodesOfFew(t *testing.T) {
	sizes := list(4, 2, 0)
	holds(t, sizes,
		testCase{"limit", with(limit(1, scan(0)), asks(scan(1))), at{8 + 8, 1}},
		testCase{"limit 0", with(limit(0, scan(0)), asks(scan(1))), at{8 + 8, 0}},
		testCase{"one group", gathers(over(api.PlGroup, scan(0)), asks(scan(1))), at{8 + 8, 1}},
		testCase{"one group, in E", with(over(api.PlGroup, scan(0)), asks(scan(1))), at{8 + 8, 1}},
		testCase{"one group of no rows", gathers(over(api.PlGroup, scan(2)), asks(scan(1))), at{0, 1}},
		testCase{"groups", keyed(gathers(over(api.PlGroup, scan(0)), asks(scan(1)), asks(scan(0), scan(1))), 0), at{8 + 32, 4}},
	)
}

// P21.1, of nodes with plans where there are two kids: pairs of rows, or the rows of both.
func TestNodesOfPairs(t *testing.T) {
	sizes := list(4, 3, 0, 7)
	for _, kind := range list(api.PlJoin, api.PlLeft) {
		left := 0
		if kind == api.PlLeft {
			left = 4
		}
		name := fmt.Sprint(kind)
		holds(t, sizes,
			testCase{name + " of pairs", with(over(kind, scan(0), scan(1)), asks(scan(3))), at{7 + 12 + 84, 12}},
			testCase{name + " of pairs, gathered", gathers(over(kind, scan(0), scan(1)), asks(scan(3))), at{7 + 12 + 84, 12}},
			testCase{name + " of no second", with(over(kind, scan(0), scan(2)), asks(scan(3))), at{4, left}},
			testCase{name + " of no first", with(over(kind, scan(2), scan(1)), asks(scan(3))), at{3, 0}},
			testCase{name + " of pairs of pairs", with(over(kind, over(api.PlJoin, scan(0), scan(1)), scan(0)), asks(one())), at{19 + 4 + 48 + 48, 48}},
		)
	}
	for kind, rows := range map[int]int{api.PlUnionAll: 7, api.PlUnion: 7, api.PlExcept: 4, api.PlIntersect: 4} {
		name := fmt.Sprint(kind)
		holds(t, sizes,
			testCase{name + " of both", with(over(kind, scan(0), scan(1)), asks(scan(3))), at{7 + 7 + 49, rows}},
			testCase{name + " of neither", with(over(kind, scan(2), scan(2)), asks(scan(3))), at{}},
			testCase{name + " of the second", with(over(kind, scan(2), scan(1)), asks(scan(3))), at{3 + 3 + 21, rows - 4}},
		)
	}
}

// P21.1: without kids there are no rows of these.
func TestNodesOfLeaves(t *testing.T) {
	sizes := list(4, 3)
	for _, kind := range leaves {
		want := at{4, 4}
		if kind == api.PlOne {
			want = at{1, 1}
		}
		p := gathers(with(over(kind), asks(scan(1)), within(asks(scan(1)))), asks(scan(1)))
		holds(t, sizes, testCase{fmt.Sprint(kind), p, want})
	}
}
