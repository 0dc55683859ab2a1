package weigh_test

import (
	"fmt"
	"testing"

	"cordon/api"
)

// The plans of these tests are as heavy as they say.
func TestStepping(t *testing.T) {
	for _, n := range list(0, 1, 99, 100) {
		holds(t, counted(), testCase{fmt.Sprint(n), stepping(n), at{n, n}})
	}
	for _, n := range list(101, 110, 129, 130, 131, 194, 1000, 8449, 8450, 1000000, 1<<39, most-1, most) {
		holds(t, counted(), testCase{fmt.Sprint(n), stepping(n), at{n, 1}})
	}
}

// P21.1, of costs that are cut in steps, while there are few rows.
func TestCutSteps(t *testing.T) {
	sizes := counted()
	half := func() api.Plan { return stepping(most / 2) }
	for _, more := range list(1, 2, 64, 1000, most/2, most-1) {
		holds(t, sizes, testCase{fmt.Sprint("above by ", more), stepping(most + more), at{most, 1}})
	}
	project := func(kid api.Plan, plans ...api.Plan) api.Plan { return with(over(api.PlProject, kid), asks(plans...)) }
	holds(t, sizes,
		testCase{"its own steps: just below", over(api.PlDistinct, stepping(most-2)), at{most - 1, 1}},
		testCase{"its own steps: at it", over(api.PlDistinct, stepping(most-1)), at{most, 1}},
		testCase{"its own steps: above", over(api.PlDistinct, stepping(most)), at{most, 1}},
		testCase{"both kids: just below", over(api.PlExcept, half(), stepping(most/2-3)), at{most - 1, 1}},
		testCase{"both kids: at it", over(api.PlExcept, half(), stepping(most/2-2)), at{most, 1}},
		testCase{"both kids: above", over(api.PlExcept, half(), stepping(most/2-1)), at{most, 1}},
		testCase{"both kids: above for themselves", over(api.PlUnionAll, stepping(most), stepping(most)), at{most, 2}},
		testCase{"plans of a node: just below", project(one(), half(), stepping(most/2-3)), at{most - 1, 1}},
		testCase{"plans of a node: at it", project(one(), half(), stepping(most/2-2)), at{most, 1}},
		testCase{"plans of a node: above", project(one(), half(), half(), half()), at{most, 1}},
		testCase{"plans of a node, over many rows: just below", project(scan(64), stepping(most/64-2), scan(0)), at{most, 64}},
		testCase{"plans of a node, over many rows: above", project(scan(64), stepping(most/64-1)), at{most, 64}},
		testCase{"plans of a node, over no rows", project(scan(0), stepping(most)), at{0, 0}},
		testCase{"plans of a node, over no rows that came at a cost", project(limit(0, scan(3)), stepping(most), stepping(most)), at{6, 0}},
		testCase{"a plan in a plan", project(one(), project(one(), stepping(most-5))), at{most - 1, 1}},
		testCase{"a plan in a plan: at it", project(one(), project(one(), stepping(most-4))), at{most, 1}},
		testCase{"a plan in a plan: above", project(one(), project(one(), stepping(most))), at{most, 1}},
		testCase{"what is gathered: just below", gathers(over(api.PlGroup, one()), asks(half()), asks(stepping(most/2-3))), at{most - 1, 1}},
		testCase{"what is gathered: above", gathers(over(api.PlGroup, one()), asks(half()), asks(half())), at{most, 1}},
		testCase{"pairs", with(over(api.PlJoin, scan(64), scan(64)), asks(stepping(1<<28-2))), at{128 + 4096 + (1<<40 - 2*4096), 4096}},
		testCase{"pairs: above", with(over(api.PlJoin, scan(64), scan(64)), asks(stepping(1<<28-1))), at{most, 4096}},
	)
	holds(t, sizes, testCase{"just below, over many rows", project(scan(63), stepping(most/63-3)), at{126 + 63*(most/63-3), 63}})
}

// P21.1, of costs that are cut in rows.
func TestCutRows(t *testing.T) {
	sizes := counted()
	full := func() api.Plan { return joined(64, 64, 64, 64, 64, 64, 16) } // just as many as there may be
	half := func() api.Plan { return joined(64, 64, 64, 64, 64, 64, 8) }
	less := func() api.Plan { return limit(most-1, full()) }
	holds(t, sizes,
		testCase{"below", joined(100, 100, 100, 100, 100, 100), at{600 + 1010101010000, 1000000000000}},
		testCase{"at it", full(), at{most, most}},
		testCase{"above", joined(64, 64, 64, 64, 64, 64, 17), at{most, most}},
		testCase{"far above", over(api.PlJoin, full(), full()), at{most, most}},
		testCase{"far above, left", over(api.PlLeft, full(), full()), at{most, most}},
		testCase{"far above, and none", over(api.PlJoin, full(), scan(0)), at{most, 0}},
		testCase{"none, and far above", over(api.PlJoin, scan(0), full()), at{most, 0}},
		testCase{"far above, and none, left", over(api.PlLeft, full(), scan(0)), at{most, most}},
		testCase{"one less", less(), at{most, most - 1}},
		testCase{"a limit that is above", limit(most+1, full()), at{most, most}},
		testCase{"a limit of many", limit(5, full()), at{most, 5}},
		testCase{"one less and one", over(api.PlUnionAll, less(), one()), at{most, most}},
		testCase{"one less and two", over(api.PlUnion, less(), scan(2)), at{most, most}},
		testCase{"one less, beside", over(api.PlExcept, less(), full()), at{most, most - 1}},
		testCase{"both together: below", over(api.PlUnionAll, half(), limit(most/2-1, half())), at{most, most - 1}},
		testCase{"both together: at it", over(api.PlUnionAll, half(), half()), at{most, most}},
		testCase{"both together: above", over(api.PlUnion, full(), full()), at{most, most}},
		testCase{"of one group", over(api.PlGroup, full()), at{most, 1}},
		testCase{"of groups", keyed(over(api.PlGroup, full()), 0), at{most, most}},
		testCase{"of a left join with none, one less", over(api.PlLeft, less(), scan(0)), at{most, most - 1}},
		testCase{"of a join with one, one less", over(api.PlJoin, less(), one()), at{most, most - 1}},
		testCase{"with a node without steps", with(over(api.PlSelect, full()), asks(scan(0))), at{most, most}},
		testCase{"with a node", with(over(api.PlSelect, full()), asks(full())), at{most, most}},
	)
}

// Costs that are cut come together again and again: nothing wraps round.
func TestCutAgain(t *testing.T) {
	many := joined(100, 100, 100, 100, 100, 100, 100)
	p := over(api.PlUnionAll, many, stepping(most))
	for range 50 {
		p = with(over(api.PlJoin, p, many), asks(stepping(most), many))
		if got := weighed(counted(), p); got != (at{most, most}) {
			t.Fatal(got)
		}
	}
}
