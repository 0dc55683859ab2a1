package algebra_test

import (
	"testing"

	"cordon/algebra"
	"cordon/api"
)

// Plans, put together by hand.

func scan(table, width int) api.Plan { return api.Plan{Kind: api.PlScan, N: table, Width: width} }

// onto is a plan with the columns of its kid.
func onto(kind, n int, kid api.Plan, nodes ...api.Node) api.Plan {
	return api.Plan{Kind: kind, N: n, E: nodes, Kids: one(kid), Width: kid.Width}
}

func chosen(kid api.Plan, n api.Node) api.Plan { return onto(api.PlSelect, 0, kid, n) }
func limited(kid api.Plan, n int) api.Plan     { return onto(api.PlLimit, n, kid) }
func distinct(kid api.Plan) api.Plan           { return onto(api.PlDistinct, 0, kid) }
func ordered(kid api.Plan, keys ...api.Node) api.Plan {
	p := onto(api.PlOrder, 0, kid, keys...)
	p.Desc = numbered(len(keys), func(i int) bool { return i%2 == 1 })
	return p
}

func project(kid api.Plan, items ...api.Node) api.Plan {
	return api.Plan{Kind: api.PlProject, E: items, Kids: one(kid), Width: len(items)}
}

func pair(kind int, a, b api.Plan, on ...api.Node) api.Plan {
	p := api.Plan{Kind: kind, E: on, Kids: one(a, b), Width: a.Width}
	if kind == api.PlJoin || kind == api.PlLeft {
		p.Width += b.Width
	}
	return p
}

func join(a, b api.Plan, on api.Node) api.Plan { return pair(api.PlJoin, a, b, on) }

func eq(a, b int) api.Node { return marked(at(a), "=", at(b)) }

// normIs holds what Norm makes of a plan, and all that is to hold whatever it is.
func normIs(t *testing.T, p api.Plan, want string) {
	t.Helper()
	if got := planTold(algebra.Norm(p)); got != want {
		t.Errorf("%s:\n%s, want\n%s", planTold(p), got, want)
	}
	normHolds(t, p)
}

// normHolds holds Norm against the second way, and against P10.6; it changes nothing and shares nothing.
func normHolds(t *testing.T, p api.Plan) api.Plan {
	t.Helper()
	kept := copied(p)
	got := algebra.Norm(p)
	told := planTold(got)
	if want := planTold(rewritten(p)); told != want {
		t.Errorf("%s:\n%s, want\n%s", planTold(p), told, want)
	}
	if again := planTold(algebra.Norm(got)); again != told {
		t.Errorf("%s:\n%s, and once more\n%s", planTold(p), told, again)
	}
	if !same(p, kept) {
		t.Errorf("%s is changed to %s", planTold(kept), planTold(p))
	}
	if !ownMemory(got, p) {
		t.Errorf("%s: memory is shared", planTold(p))
	}
	return got
}

func stays(t *testing.T, p api.Plan) {
	t.Helper()
	normIs(t, p, planTold(p))
}

// P10.4: a select of the constant true, and of others.
func TestNormTrue(t *testing.T) {
	normIs(t, chosen(scan(2, 3), truth(1)), "scan:2/3")
	normIs(t, chosen(chosen(scan(2, 3), truth(1)), truth(1)), "scan:2/3")
	normIs(t, chosen(join(scan(0, 1), scan(1, 1), kindOf(api.ExNeg, at(0))), truth(1)), "join/2[neg(#0)](scan/1, scan:1/1)")
	normIs(t, chosen(join(scan(0, 1), scan(1, 1), eq(0, 1)), truth(1)), "join/2[(#0 = #1)](scan/1, scan:1/1)")
	for _, n := range []api.Node{truth(0), truth(2), truth(-1), constant(1), at(1), {Kind: api.ExNull, N: 1}, {Kind: api.ExNull}, varNode("true"), {Kind: api.ExText, S: "true"},
		kindOf(api.ExNot, truth(0)), marked(truth(1), "or", truth(1)), {Kind: api.ExIs, N: 1, Kids: one(truth(1))}, asking(api.ExExists, smallPlan(truth(1)))} {
		stays(t, chosen(scan(2, 3), n))
		normIs(t, chosen(chosen(scan(2, 3), n), truth(1)), planTold(chosen(scan(2, 3), n)))
		normIs(t, chosen(chosen(scan(2, 3), truth(1)), n), planTold(chosen(scan(2, 3), n)))
	}
	for _, kind := range []int{api.PlProject, api.PlOrder, api.PlLimit, api.PlDistinct, 0, 16} {
		stays(t, onto(kind, 4, scan(0, 1), truth(1)))
	}
	stays(t, join(scan(0, 1), scan(1, 1), truth(1)))
	stays(t, pair(api.PlLeft, scan(0, 1), scan(1, 1), truth(1)))
}

// P10.4: limits.
func TestNormLimit(t *testing.T) {
	for _, c := range [][3]int{{1, 2, 1}, {2, 1, 1}, {3, 3, 3}, {0, 5, 0}, {5, 0, 0}, {1 << 60, 7, 7}} {
		want := planTold(limited(scan(0, 1), c[2]))
		normIs(t, limited(limited(scan(0, 1), c[0]), c[1]), want)
		normIs(t, limited(limited(limited(scan(0, 1), c[0]), c[1]), c[0]), want)
		stays(t, limited(distinct(limited(scan(0, 1), c[0])), c[1]))
		stays(t, limited(ordered(limited(scan(0, 1), c[0]), at(0)), c[1]))
		stays(t, limited(chosen(limited(scan(0, 1), c[0]), at(0)), c[1]))
		stays(t, limited(project(limited(scan(0, 1), c[0]), at(0)), c[1]))
		normIs(t, limited(ordered(limited(scan(0, 1), c[0])), c[1]), want)
		normIs(t, limited(chosen(limited(scan(0, 1), c[0]), truth(1)), c[1]), want)
	}
	stays(t, limited(scan(0, 1), 0))
	stays(t, limited(scan(0, 1), 9))
	chain := scan(0, 1)
	for _, n := range []int{9, 4, 7, 3, 8, 3} {
		chain = limited(chain, n)
	}
	normIs(t, chain, "limit:3/1(scan/1)")
}

// P10.4: distinct of what tells each row once already, and of what does not.
func TestNormDistinct(t *testing.T) {
	stays(t, distinct(scan(0, 1)))
	normIs(t, distinct(distinct(scan(0, 1))), "distinct/1(scan/1)")
	normIs(t, distinct(distinct(distinct(distinct(scan(0, 1))))), "distinct/1(scan/1)")
	for kind := range 17 {
		two := pair(kind, scan(0, 1), scan(1, 1), at(0))
		want := planTold(distinct(two))
		switch kind {
		case api.PlDistinct, api.PlUnion, api.PlExcept, api.PlIntersect:
			want = planTold(two)
		}
		normIs(t, distinct(two), want)
		normIs(t, distinct(ordered(distinct(two))), want)
		stays(t, distinct(limited(distinct(scan(0, 1)), 3)))
		stays(t, distinct(project(distinct(scan(0, 1)), at(0))))
		stays(t, distinct(chosen(distinct(scan(0, 1)), at(0))))
		stays(t, distinct(ordered(distinct(scan(0, 1)), at(0))))
	}
}

// P10.4: an order by nothing.
func TestNormOrder(t *testing.T) {
	normIs(t, ordered(scan(0, 1)), "scan/1")
	normIs(t, ordered(ordered(ordered(scan(0, 1)))), "scan/1")
	stays(t, ordered(scan(0, 1), at(0)))
	stays(t, ordered(scan(0, 1), truth(1), constant(2)))
	stays(t, ordered(ordered(scan(0, 1), at(0)), at(0)))
	normIs(t, ordered(ordered(scan(0, 1), at(0))), "order/1[#0] desc[false](scan/1)")
	normIs(t, ordered(ordered(scan(0, 1)), at(0)), "order/1[#0] desc[false](scan/1)")
	p := ordered(scan(0, 1))
	p.Desc = one(true, false)
	normIs(t, p, "scan/1")
	for _, kind := range []int{api.PlSelect, api.PlProject, api.PlGroup, api.PlDistinct, api.PlLimit, 0, 16} {
		stays(t, onto(kind, 0, scan(0, 1)))
	}
}

// P10.4: selects of joins, over columns of the first, of the second, of both and of none.
func TestNormJoin(t *testing.T) {
	a, b := scan(0, 2), scan(1, 3)
	j := join(a, b, eq(0, 2))
	for _, c := range []struct {
		n    api.Node
		want string
	}{
		{at(0), "join/5[(#0 = #2)](select/2[#0](scan/2), scan:1/3)"},
		{at(1), "join/5[(#0 = #2)](select/2[#1](scan/2), scan:1/3)"},
		{eq(1, 0), "join/5[(#0 = #2)](select/2[(#1 = #0)](scan/2), scan:1/3)"},
		{at(2), "join/5[(#0 = #2)](scan/2, select/3[#0](scan:1/3))"},
		{at(4), "join/5[(#0 = #2)](scan/2, select/3[#2](scan:1/3))"},
		{eq(4, 2), "join/5[(#0 = #2)](scan/2, select/3[(#2 = #0)](scan:1/3))"},
		{kindOf(api.ExCase, at(3), kindOf(api.ExNot, at(4)), marked(varNode("v"), "<", at(3))), "join/5[(#0 = #2)](scan/2, select/3[case(#1, not(#2), (var'v' < #1))](scan:1/3))"},
		{truth(0), "join/5[(#0 = #2)](select/2[bool](scan/2), scan:1/3)"},
		{varNode("v"), "join/5[(#0 = #2)](select/2[var'v'](scan/2), scan:1/3)"},
		{marked(varNode("v"), "<=", constant(9)), "join/5[(#0 = #2)](select/2[(var'v' <= 9)](scan/2), scan:1/3)"},
	} {
		normIs(t, chosen(j, c.n), c.want)
	}
	for _, n := range one(eq(0, 2), eq(1, 4), eq(2, 1), kindOf(api.ExCase, at(1), at(0), at(2)), at(5), at(-1), eq(4, 5), eq(-1, 0)) {
		stays(t, chosen(j, n))
	}
}

// P10.4: just where both nodes are total, and it is no other kind than a join.
func TestNormJoinTotal(t *testing.T) {
	a, b := scan(0, 2), scan(1, 3)
	for _, n := range totals() {
		normIs(t, chosen(join(a, b, n), at(0)), "join/5["+nodeTold(n)+"](select/2[#0](scan/2), scan:1/3)")
		normIs(t, chosen(join(a, b, n), at(2)), "join/5["+nodeTold(n)+"](scan/2, select/3[#0](scan:1/3))")
		stays(t, chosen(pair(api.PlLeft, a, b, n), at(0)))
		stays(t, chosen(pair(api.PlLeft, a, b, n), at(2)))
	}
	for _, n := range partials() {
		stays(t, chosen(join(a, b, n), at(0)))
		stays(t, chosen(join(a, b, n), at(2)))
		stays(t, chosen(join(a, b, n), truth(0)))
		stays(t, chosen(join(a, b, at(0)), n))
		stays(t, chosen(join(a, b, at(2)), marked(at(0), "and", n)))
		stays(t, chosen(join(a, b, n), n))
		normIs(t, chosen(join(a, b, n), truth(1)), planTold(join(a, b, n)))
	}
	for kind := range 17 {
		if kind != api.PlJoin {
			stays(t, chosen(pair(kind, a, b, at(0)), at(0)))
		}
		if kind != api.PlSelect {
			p := onto(kind, 0, join(a, b, truth(1)), at(0))
			stays(t, p)
		}
	}
}

// P10.4: joins within joins, and selects of selects.
func TestNormJoins(t *testing.T) {
	a, b, c := scan(0, 1), scan(1, 1), scan(2, 2)
	left := join(join(a, b, eq(0, 1)), c, truth(1))
	right := join(a, join(b, c, eq(0, 1)), truth(1))
	const atA, atB, atC = "select/1[#0](scan/1)", "select/1[#0](scan:1/1)", "select/2[#1](scan:2/2)"
	on := "join/2[(#0 = #1)]("
	normIs(t, chosen(left, at(0)), "join/4[bool:1]("+on+atA+", scan:1/1), scan:2/2)")
	normIs(t, chosen(left, at(1)), "join/4[bool:1]("+on+"scan/1, "+atB+"), scan:2/2)")
	normIs(t, chosen(left, eq(1, 0)), "join/4[bool:1](select/2[(#1 = #0)]("+on+"scan/1, scan:1/1)), scan:2/2)")
	normIs(t, chosen(left, at(3)), "join/4[bool:1]("+on+"scan/1, scan:1/1), "+atC+")")
	stays(t, chosen(left, eq(1, 2)))
	on = "join/3[(#0 = #1)]("
	normIs(t, chosen(right, at(0)), "join/4[bool:1]("+atA+", "+on+"scan:1/1, scan:2/2))")
	normIs(t, chosen(right, at(1)), "join/4[bool:1](scan/1, "+on+atB+", scan:2/2))")
	normIs(t, chosen(right, at(3)), "join/4[bool:1](scan/1, "+on+"scan:1/1, "+atC+"))")
	normIs(t, chosen(right, eq(1, 3)), "join/4[bool:1](scan/1, select/3[(#0 = #2)]("+on+"scan:1/1, scan:2/2)))")
	stays(t, chosen(right, eq(0, 3)))
	both := join(left, right, truth(0))
	normIs(t, chosen(chosen(both, at(1)), at(7)), "join/8[bool](join/4[bool:1](join/2[(#0 = #1)](scan/1, "+atB+"), scan:2/2), join/4[bool:1](scan/1, join/3[(#0 = #1)](scan:1/1, "+atC+")))")
	// a select that stays keeps those above it from going on; one that goes does not
	j := join(a, b, truth(1))
	stays(t, chosen(chosen(j, eq(0, 1)), at(0)))
	stays(t, chosen(chosen(j, kindOf(api.ExNeg, at(0))), at(1)))
	normIs(t, chosen(chosen(j, at(0)), eq(0, 1)), "select/2[(#0 = #1)](join/2[bool:1](select/1[#0](scan/1), scan:1/1))")
	normIs(t, chosen(chosen(j, at(0)), at(1)), "join/2[bool:1](select/1[#0](scan/1), select/1[#0](scan:1/1))")
	normIs(t, chosen(chosen(j, at(0)), kindOf(api.ExNot, at(0))), "join/2[bool:1](select/1[not(#0)](select/1[#0](scan/1)), scan:1/1)")
	// where it goes it meets what is no join, or a join that is not total
	normIs(t, chosen(join(join(a, b, kindOf(api.ExNeg, at(0))), c, truth(1)), at(0)), "join/4[bool:1](select/2[#0](join/2[neg(#0)](scan/1, scan:1/1)), scan:2/2)")
	normIs(t, chosen(join(limited(j, 3), c, truth(1)), at(1)), "join/4[bool:1](select/2[#1](limit:3/2(join/2[bool:1](scan/1, scan:1/1))), scan:2/2)")
	normIs(t, chosen(join(pair(api.PlLeft, a, b, truth(1)), c, truth(1)), at(1)), "join/4[bool:1](select/2[#1](left/2[bool:1](scan/1, scan:1/1)), scan:2/2)")
	// kids without columns
	nothing := api.Plan{Kind: api.PlOne}
	normIs(t, chosen(join(nothing, b, truth(0)), at(0)), "join/1[bool](one, select/1[#0](scan:1/1))")
	normIs(t, chosen(join(nothing, b, truth(0)), varNode("v")), "join/1[bool](select[var'v'](one), scan:1/1)")
	normIs(t, chosen(join(nothing, nothing, truth(0)), varNode("v")), "join[bool](select[var'v'](one), one)")
}

// P10.4: rules within one another, from the leaves on, and behind one another.
func TestNormWithin(t *testing.T) {
	a, b := scan(0, 1), scan(1, 1)
	j := join(a, b, eq(0, 1))
	normIs(t, chosen(ordered(chosen(j, truth(1))), at(0)), "join/2[(#0 = #1)](select/1[#0](scan/1), scan:1/1)")
	normIs(t, chosen(ordered(chosen(ordered(j), at(1))), at(0)), "join/2[(#0 = #1)](select/1[#0](scan/1), select/1[#0](scan:1/1))")
	normIs(t, limited(ordered(limited(distinct(distinct(a)), 4)), 2), "limit:2/1(distinct/1(scan/1))")
	normIs(t, distinct(chosen(pair(api.PlUnion, ordered(a), distinct(distinct(b))), truth(1))), "union/1(scan/1, distinct/1(scan:1/1))")
	normIs(t, project(ordered(a), at(0)), "project/1[#0](scan/1)")
	normIs(t, api.Plan{Kind: api.PlGroup, Keys: one(0), Aggs: one(api.Gather{Fn: "sum", E: one(at(0))}), Width: 2, Kids: one(ordered(a))}, "group/2 by[0] of[sum(#0)](scan/1)")
	for _, kind := range []int{api.PlJoin, api.PlLeft, api.PlUnion, api.PlUnionAll, api.PlExcept, api.PlIntersect, 0, 99} {
		normIs(t, pair(kind, ordered(a), chosen(b, truth(1)), at(0)), planTold(pair(kind, a, b, at(0))))
		normIs(t, pair(kind, limited(limited(a, 1), 2), distinct(distinct(b)), at(0)), planTold(pair(kind, limited(a, 1), distinct(b), at(0))))
	}
	normIs(t, ordered(limited(ordered(j), 5), at(1)), planTold(ordered(limited(j, 5), at(1))))
	// what a join's kids come to is there when a select is laid into one
	normIs(t, chosen(join(chosen(j, truth(1)), ordered(a), truth(0)), at(2)), "join/3[bool](join/2[(#0 = #1)](scan/1, scan:1/1), select/1[#0](scan/1))")
	normIs(t, chosen(join(chosen(j, truth(1)), ordered(a), truth(0)), at(1)), "join/3[bool](join/2[(#0 = #1)](scan/1, select/1[#0](scan:1/1)), scan/1)")
}

// P10.4: plans within nodes are not turned, wherever the nodes stand.
func TestNormLeavesNodes(t *testing.T) {
	inner := ordered(limited(limited(distinct(distinct(chosen(join(scan(0, 1), scan(1, 1), truth(1)), at(0)))), 3), 2))
	n := asking(api.ExExists, inner)
	for _, p := range []api.Plan{
		chosen(scan(0, 1), n), project(scan(0, 1), n, marked(n, "or", truth(1))), ordered(scan(0, 1), n), join(scan(0, 1), scan(1, 1), n),
		pair(api.PlLeft, scan(0, 1), scan(1, 1), kindOf(api.ExNot, n)), chosen(scan(0, 1), asking(api.ExIn, inner, at(0))), project(scan(0, 1), asking(api.ExScalar, project(inner, n))),
		{Kind: api.PlGroup, Aggs: one(api.Gather{Fn: "max", E: one(n)}), Width: 1, Kids: one(scan(0, 1))},
	} {
		stays(t, p)
		normIs(t, ordered(p), planTold(p))
	}
	normIs(t, chosen(chosen(inner, n), truth(1)), planTold(chosen(algebra.Norm(inner), n)))
}

// P10.4, of what layer 10 makes of texts.
func TestNormOfTexts(t *testing.T) {
	w := ours()
	for s, want := range map[string]string{
		"select i1 as x from t where true":                                                      "project/1[#0](scan/3)",
		"select i1 as x from t where false":                                                     "project/1[#0](select/3[bool](scan/3))",
		"select i1 as x from t where i1 > 1":                                                    "project/1[#0](select/3[(#0 > 1)](scan/3))",
		"select s2 as x from t join u on t.i1 = u.i1 where s1 is null":                          "project/1[#4](join/5[(#0 = #3)](select/3[is(#2)](scan/3), scan:1/2))",
		"select s2 as x from t join u on t.i1 = u.i1 where s2 = 'a'":                            "project/1[#4](join/5[(#0 = #3)](scan/3, select/2[(#1 = text'a')](scan:1/2)))",
		"select s2 as x from t join u on t.i1 = u.i1 where s2 = s1":                             "project/1[#4](select/5[(#4 = #2)](join/5[(#0 = #3)](scan/3, scan:1/2)))",
		"select s2 as x from t left join u on t.i1 = u.i1 where s1 = 'a'":                       "project/1[#4](select/5[(#2 = text'a')](left/5[(#0 = #3)](scan/3, scan:1/2)))",
		"select s2 as x from t join u on t.i1 + 1 = u.i1 where s1 = 'a'":                        "project/1[#4](select/5[(#2 = text'a')](join/5[((#0 + 1) = #3)](scan/3, scan:1/2)))",
		"select s2 as x from t join u on t.i1 = u.i1 where t.i1 + 1 = 2":                        "project/1[#4](select/5[((#0 + 1) = 2)](join/5[(#0 = #3)](scan/3, scan:1/2)))",
		"select s2 as x from t join u on b1 join v on b2 where s2 = 'a'":                        "project/1[#4](join/9[#5](join/5[#1](scan/3, select/2[(#1 = text'a')](scan:1/2)), scan:2/4))",
		"select s2 as x from t join u on b1 join v on b2 where i2 = 1":                          "project/1[#4](join/9[#5](join/5[#1](scan/3, scan:1/2), select/4[(#2 = 1)](scan:2/4)))",
		"select s2 as x from t join u on b1 where :b":                                           "project/1[#4](join/5[#1](select/3[var'b'](scan/3), scan:1/2))",
		"select s1 as x from t group by s1 having true":                                         "project/1[#0](group/1 by[2](scan/3))",
		"select distinct y as x from (select distinct s1 as y from t) as q":                     "distinct/1(project/1[#0](distinct/1(project/1[#2](scan/3))))",
		"select 1 as x union (select 2 as x where true)":                                        "union/1(project/1[1](one), project/1[2](one))",
		"select i1 as x from t where exists (select 1 as y where true)":                         "project/1[#0](select/3[exists{project/1[1](select[bool:1](one))}](scan/3))",
		"select x as y from (select i1 as x from t where true limit 3) as q where true limit 2": "limit:2/1(project/1[#0](limit:3/1(project/1[#0](scan/3))))",
	} {
		p, err := algebra.Plan(w.c, w.vars, readQuery(t, s))
		if err != api.OK {
			t.Fatal(s, err)
		}
		normIs(t, p, want)
	}
}
