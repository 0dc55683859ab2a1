package weigh_test

import (
	"fmt"
	"testing"

	"cordon/algebra"
	"cordon/api"
	"cordon/schema"
	"cordon/syntax"
	"cordon/weigh"
)

// The chapter's example.
func TestExample(t *testing.T) {
	p := over(api.PlJoin, scan(0), scan(1))
	if c := weigh.Plan(list(10, 5), p); c != complex(15+50, 50) {
		t.Error(c)
	}
}

// P21.1, of tables: those of which a size is said, and those of which none is.
func TestTables(t *testing.T) {
	sizes := list(7, -1, 0, 1, 99, api.MaxRows, api.MaxRows+1, least, greatest, 3)
	want := list(7, 0, 0, 1, 99, 100, 100, 0, 100, 3)
	for _, kind := range list(api.PlScan, api.PlVisible) {
		for n, rows := range want {
			holds(t, sizes, testCase{fmt.Sprint(kind, " of ", n), api.Plan{Kind: kind, N: n}, at{rows, rows}})
		}
		for _, n := range list(-1, -2, least, len(sizes), len(sizes)+1, greatest) {
			holds(t, sizes, testCase{fmt.Sprint(kind, " of ", n), api.Plan{Kind: kind, N: n}, at{}})
		}
		for _, none := range list(nil, []int{}) {
			holds(t, none, testCase{"no sizes", api.Plan{Kind: kind}, at{}}, testCase{"none below", api.Plan{Kind: kind, N: -1}, at{}})
		}
		holds(t, list(8), testCase{"the one table", api.Plan{Kind: kind}, at{8, 8}}, testCase{"one beyond", api.Plan{Kind: kind, N: 1}, at{}})
		back := make([]int, 2, 5)
		holds(t, append(back, 9)[:2], testCase{"beyond the length, not the capacity", api.Plan{Kind: kind, N: 2}, at{}})
	}
	holds(t, nil, testCase{"one row", one(), at{1, 1}})
	holds(t, sizes, testCase{"one row, whatever N is", api.Plan{Kind: api.PlOne, N: 5}, at{1, 1}})
}

// P21.1, of plans with one kid. The kid has 8 steps and 4 rows, so that one is not taken for the other.
func TestSingle(t *testing.T) {
	sizes := list(4, 0)
	kid := func() api.Plan { return over(api.PlUnionAll, over(api.PlExcept, scan(1), scan(1)), scan(0)) } // 0 and 4, and 4 more
	none := func() api.Plan { return scan(1) }
	holds(t, sizes, testCase{"the kid", kid(), at{8, 4}})
	for _, kind := range list(api.PlSelect, api.PlProject, api.PlDistinct, api.PlOrder) {
		name := fmt.Sprint(kind)
		holds(t, sizes,
			testCase{name, over(kind, kid()), at{12, 4}},
			testCase{name + " of no rows", over(kind, none()), at{0, 0}},
			testCase{name + " with what it makes no use of", api.Plan{Kind: kind, N: -3, Keys: list(1), Kids: list(kid()), Desc: list(true), Width: 9}, at{12, 4}},
		)
	}
	for n, rows := range map[int]int{least: 0, -1: 0, 0: 0, 1: 1, 3: 3, 4: 4, 5: 4, greatest: 4} {
		name := fmt.Sprint("limit ", n)
		holds(t, sizes, testCase{name, limit(n, kid()), at{12, rows}}, testCase{name + " of no rows", limit(n, none()), at{0, 0}})
	}
	holds(t, sizes,
		testCase{"groups", keyed(over(api.PlGroup, kid()), 0), at{12, 4}},
		testCase{"groups by more", keyed(over(api.PlGroup, kid()), 0, 1, -1), at{12, 4}},
		testCase{"groups of no rows", keyed(over(api.PlGroup, none()), 0), at{0, 0}},
		testCase{"one group", over(api.PlGroup, kid()), at{12, 1}},
		testCase{"one group, by keys that are none", api.Plan{Kind: api.PlGroup, Kids: list(kid()), Keys: []int{}}, at{12, 1}},
		testCase{"one group of no rows", over(api.PlGroup, none()), at{0, 1}},
		testCase{"gathered, without nodes", gathers(over(api.PlGroup, kid())), at{12, 1}},
		testCase{"count of rows", api.Plan{Kind: api.PlGroup, Kids: list(kid()), Aggs: list(api.Gather{Fn: "count"})}, at{12, 1}},
	)
}

// P21.1, of plans with two kids, of which the first, the second, both and neither has rows.
func TestDouble(t *testing.T) {
	sizes := list(4, 3, 0)
	a, b, none := scan(0), scan(1), scan(2)
	pair := func(name string, kind int, both, first, second, neither at) {
		holds(t, sizes,
			testCase{name + " of both", over(kind, a, b), both},
			testCase{name + " of the first", over(kind, a, none), first},
			testCase{name + " of the second", over(kind, none, b), second},
			testCase{name + " of neither", over(kind, none, none), neither},
		)
	}
	pair("join", api.PlJoin, at{7 + 12, 12}, at{4, 0}, at{3, 0}, at{0, 0})
	pair("left", api.PlLeft, at{7 + 12, 12}, at{4, 4}, at{3, 0}, at{0, 0})
	pair("union all", api.PlUnionAll, at{7 + 7, 7}, at{8, 4}, at{6, 3}, at{0, 0})
	pair("union", api.PlUnion, at{7 + 7, 7}, at{8, 4}, at{6, 3}, at{0, 0})
	pair("except", api.PlExcept, at{7 + 7, 4}, at{8, 4}, at{6, 0}, at{0, 0})
	pair("intersect", api.PlIntersect, at{7 + 7, 4}, at{8, 4}, at{6, 0}, at{0, 0})
	holds(t, sizes,
		testCase{"the other way round", over(api.PlExcept, b, a), at{14, 3}},
		testCase{"a join of joins", over(api.PlJoin, over(api.PlJoin, a, b), over(api.PlJoin, b, a)), at{19 + 19 + 144, 144}},
		testCase{"a left join of left joins", over(api.PlLeft, over(api.PlLeft, a, none), over(api.PlLeft, none, a)), at{4 + 4, 4}},
		testCase{"steps of a kid that has no rows", over(api.PlJoin, over(api.PlSelect, a), limit(0, b)), at{8 + 6, 0}},
		testCase{"a left one of them", over(api.PlLeft, over(api.PlSelect, a), limit(0, b)), at{8 + 6, 4}},
		testCase{"of one row", over(api.PlJoin, one(), over(api.PlUnion, one(), one())), at{1 + 4 + 2, 2}},
	)
}

// P21.1, of plans of queries.
func TestQueries(t *testing.T) {
	s, _, err := syntax.Schema("levels low; table t rows low (a int low); table u rows low (b int low) hide low when b = 1;")
	if err != api.OK {
		t.Fatal(err)
	}
	c, _, err := schema.New(s)
	if err != api.OK {
		t.Fatal(err)
	}
	for text, want := range map[string]at{
		"select 1 as x":                    {2, 1},
		"select a as x from t":             {20, 10},
		"select a as x from t where a > 1": {30, 10},
		"select distinct b as x from u visible order by x limit 3":            {25, 3},
		"select count(*) as n from t":                                         {21, 1},
		"select a as x, count(*) as n from t group by a having a > 1":         {40, 10},
		"select a as x from t join u on a = b":                                {15 + 50 + 50, 50},
		"select a as x from t left join u on a = b":                           {15 + 50 + 50, 50},
		"select a as x from t union select b as x from u":                     {20 + 10 + 15, 15},
		"select a as x from t except select b as x from u":                    {20 + 10 + 15, 10},
		"select a as x from t where a in (select b as x from u)":              {10 + 10 + 10*10 + 10, 10},
		"select a as x from t join u on exists (select 1 as x from u)":        {15 + 50 + 50*10 + 50, 50},
		"select sum(a + (select max(b) as m from u)) as x from t":             {10 + 10 + 10*(5+5+1) + 1, 1},
		"select (select (select b as x from u limit 1) as x from u) as x":     {1 + 1 + (5 + 5 + 5*15), 1},
		"select x as y from (select a as x from t) as s where x is not null":  {40, 10},
		"select a as x from t order by (select count(*) as n from u), x desc": {20 + 10 + 10*(5+5+1), 10},
	} {
		q, place, err := syntax.Query(text)
		if err != api.OK {
			t.Errorf("%s: %d %v", text, place, err)
			continue
		}
		p, err := algebra.Plan(c, nil, q)
		if err != api.OK {
			t.Errorf("%s: %v", text, err)
			continue
		}
		holds(t, list(10, 5), testCase{text, p, want})
	}
}
