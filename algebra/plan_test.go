package algebra_test

import (
	"fmt"
	"strings"
	"testing"

	"cordon/algebra"
	"cordon/api"
	"cordon/schema"
	"cordon/types"
)

// nodeIs holds an expression's node, over our places.
func nodeIs(t *testing.T, s, want string) {
	t.Helper()
	w := ours()
	x := readExpr(t, s)
	if got := nodeAnswer(algebra.Node(w.c, w.vars, w.cols, x)); got != want {
		t.Errorf("%s:\n%s, want\n%s", s, got, want)
	}
	nodeHolds(t, w, x)
}

// planIs holds a query's plan, over our schema.
func planIs(t *testing.T, s, want string) {
	t.Helper()
	w := ours()
	q := readQuery(t, s)
	if got := planAnswer(algebra.Plan(w.c, w.vars, q)); got != want {
		t.Errorf("%s:\n%s, want\n%s", s, got, want)
	}
	planHolds(t, w, q)
}

// The chapter's example, as a whole plan.
func TestExample(t *testing.T) {
	planIs(t, "select i1 as x from t where i1 > 1", "project/1[#0](select/3[(#0 > 1)](scan/3))")
	w := ours()
	got, err := algebra.Plan(w.c, nil, readQuery(t, "select i1 as x from u where i1 > 1"))
	place := func(at int) api.Node { return api.Node{Kind: api.ExCol, N: at} }
	scan := api.Plan{Kind: api.PlScan, N: 1, Width: 2}
	where := api.Node{Kind: api.ExBin, S: ">", Kids: one(place(0), api.Node{Kind: api.ExInt, N: 1})}
	want := api.Plan{Kind: api.PlProject, E: one(place(0)), Width: 1, Kids: one(api.Plan{Kind: api.PlSelect, E: one(where), Width: 2, Kids: one(scan)})}
	if err != api.OK || planTold(got) != planTold(want) || !same(got, want) {
		t.Errorf("%+v %v", got, err)
	}
}

// P10.1: the node of every kind.
func TestNodes(t *testing.T) {
	for s, want := range map[string]string{
		"null": "null", "true": "bool:1", "false": "bool", "0": "0", "7": "7", "999999999999999999": "999999999999999999", "''": "text", "'it''s'": "text'it's'",
		":n": "var'n'", ":b": "var'b'", ":i": "var'i'", ":s": "var's'",
		"-bare": "neg(#6)", "-5": "neg(5)", "not b": "not(#1)", "not (not null)": "not(not(null))",
		"s is null": "is(#3)", "s is not null": "is:1(#3)", "(1 is null) is not null": "is:1(is(1))",
		"case when b then 1 else null end":                                        "case(#1, 1, null)",
		"case when :b then case when true then 2 else 3 end else -bare end":       "case(var'b', case(bool:1, 2, 3), neg(#6))",
		"exists (select 1 as x)":                                                  "exists{project/1[1](one)}",
		"bare in (select i1 as x from t)":                                         "in(#6){project/1[#0](scan/3)}",
		"bare + 1 not in (select i2 as x from v visible)":                         "in:1((#6 + 1)){project/1[#2](visible:2/4)}",
		"(select s2 as x from u)":                                                 "scalar{project/1[#1](scan:1/2)}",
		"(select count(*) as x from u)":                                           "scalar{project/1[#0](group/1 of[count()](scan:1/2))}",
		"exists (select (select :i in (select null as y) as x) as z)":             "exists{project/1[scalar{project/1[in(var'i'){project/1[null](one)}](one)}](one)}",
		"(select 1 as x) + (select 2 as y)":                                       "(scalar{project/1[1](one)} + scalar{project/1[2](one)})",
		"bare = bare or last and b":                                               "((#6 = #6) or (#8 and #1))",
		"t.s || u.both || 'x'":                                                    "((#3 || #5) || text'x')",
		"case when t.i = u.i then t.both else bare end * -(t.i % 2)":              "(case((#2 = #7), #4, #6) * neg((#2 % 2)))",
		"not (exists (select 1 as x from t where i1 > :i limit 1) and s is null)": "not((exists{limit:1/1(project/1[1](select/3[(#0 > var'i')](scan/3)))} and is(#3)))",
		"(select max(i1) as x from t union all select null as y) < bare":          "(scalar{unionall/1(project/1[#0](group/1 of[max(#0)](scan/3)), project/1[null](one))} < #6)",
		"exists (select i1 as x, 2 as y from (select i1 as i1 from u) as q)":      "exists{project/2[#0, 2](project/1[#0](scan:1/2))}",
	} {
		nodeIs(t, s, want)
	}
}

// P10.1: a column's place is that of the one place that is such, with T or without, and its S is empty.
func TestColumnsOfNodes(t *testing.T) {
	for s, want := range map[string]string{
		"n": "#0", "t.n": "#0", "b": "#1", "t.b": "#1", "t.i": "#2", "s": "#3", "t.s": "#3", "t.both": "#4", "u.both": "#5", "bare": "#6", "u.i": "#7", "last": "#8", "u.last": "#8",
		"i": "ErrName", "both": "ErrName", "t.last": "ErrName", "t.bare": "ErrName", "nosuch": "ErrName", "B": "ErrName", "v.b": "ErrName",
	} {
		nodeIs(t, s, want)
	}
	w := ours()
	far := numbered(300, func(i int) api.Place { return api.Place{T: "t", Name: fmt.Sprint("c", i), Type: api.TyInt} })
	if got := nodeAnswer(algebra.Node(w.c, nil, far, bin(col("c299"), "-", colOf("t", "c7")))); got != "(#299 - #7)" {
		t.Error(got)
	}
	if got := nodeAnswer(algebra.Node(w.c, nil, nil, num(1))); got != "1" {
		t.Error(got)
	}
}

// P10.1: each mark, over kids of each kind.
func TestMarksOfNodes(t *testing.T) {
	for _, mark := range marks {
		a, b := "bare", "7"
		switch mark {
		case "or", "and":
			a, b = "b", "true"
		case "||":
			a, b = "s", "'x'"
		}
		told := map[string]string{"bare": "#6", "7": "7", "b": "#1", "true": "bool:1", "s": "#3", "'x'": "text'x'"}
		nodeIs(t, a+" "+mark+" "+b, "("+told[a]+" "+mark+" "+told[b]+")")
		nodeIs(t, b+" "+mark+" "+a, "("+told[b]+" "+mark+" "+told[a]+")")
		nodeIs(t, "null "+mark+" :n", "(null "+mark+" var'n')")
	}
}

// P10.1: each part of a query alone.
func TestPlansOfParts(t *testing.T) {
	for s, want := range map[string]string{
		"select 1 as x":                                            "project/1[1](one)",
		"select 1 as x, null as y, 'a' as x":                       "project/3[1, null, text'a'](one)",
		"select 1 as x where false":                                "project/1[1](select[bool](one))",
		"select i1 as x from t":                                    "project/1[#0](scan/3)",
		"select s2 as x, i1 as y, s2 as z from u":                  "project/3[#1, #0, #1](scan:1/2)",
		"select v.i2 as x from v":                                  "project/1[#2](scan:2/4)",
		"select w.i2 as x from v as w":                             "project/1[#2](scan:2/4)",
		"select i1 as x from t visible":                            "project/1[#0](visible/3)",
		"select q.i1 as x from u visible as q":                     "project/1[#0](visible:1/2)",
		"select s1 as x from t where b1":                           "project/1[#2](select/3[#1](scan/3))",
		"select distinct i1 as x from t":                           "distinct/1(project/1[#0](scan/3))",
		"select i1 as x from t limit 0":                            "limit/1(project/1[#0](scan/3))",
		"select i1 as x from t limit 9":                            "limit:9/1(project/1[#0](scan/3))",
		"select i1 as x from t limit 2000000":                      "limit:2000000/1(project/1[#0](scan/3))",
		"select i1 as x, s1 as y from t order by y":                "order/2[#1] desc[false](project/2[#0, #2](scan/3))",
		"select i1 as x, s1 as i1 from t order by i1":              "order/2[#1] desc[false](project/2[#0, #2](scan/3))",
		"select 1 as x order by x desc, 2, -x, 3 desc":             "order/1[#0, 2, neg(#0), 3] desc[true false false true](project/1[1](one))",
		"select 1 as x order by exists (select 2 as y order by y)": "order/1[exists{order/1[#0] desc[false](project/1[2](one))}] desc[false](project/1[1](one))",
		"select i1 as x from t group by i1":                        "project/1[#0](group/1 by[0](scan/3))",
		"select count(*) as x":                                     "project/1[#0](group/1 of[count()](one))",
		"select count(*) as x from t":                              "project/1[#0](group/1 of[count()](scan/3))",
		"select 1 as x from t group by s1":                         "project/1[1](group/1 by[2](scan/3))",
		"select 1 as x from t group by s1 having s1 is null":       "project/1[1](select/1[is(#0)](group/1 by[2](scan/3)))",
	} {
		planIs(t, s, want)
	}
}

// P10.1: all parts in one query, as they stand from within.
func TestPlanOfAllParts(t *testing.T) {
	planIs(t, "select distinct s1 as x, count(*) as n, max(i1 + 1) as m from t where b1 group by t.s1, b1 having sum(i1) > 2 and b1 order by n desc, x limit 7",
		"limit:7/3(order/3[#1, #0] desc[true false](distinct/3(project/3[#0, #2, #3](select/5[((#4 > 2) and #1)](group/5 by[2 1] of[count(), max((#0 + 1)), sum(#0)](select/3[#1](scan/3)))))))")
	planIs(t, "select distinct i1 as x from t where b1 order by x limit 1",
		"limit:1/1(order/1[#0] desc[false](distinct/1(project/1[#0](select/3[#1](scan/3)))))")
	planIs(t, "select distinct 1 as x where null order by x limit 1",
		"limit:1/1(order/1[#0] desc[false](distinct/1(project/1[1](select[null](one)))))")
	planIs(t, "select distinct i1 as x from t limit 3", "limit:3/1(distinct/1(project/1[#0](scan/3)))")
	planIs(t, "select i1 as x from t order by x limit 3", "limit:3/1(order/1[#0] desc[false](project/1[#0](scan/3)))")
}

// P10.1: what rows come from: tables, visible ones, queries, joins of them, On over the columns of both.
func TestPlansOfFrom(t *testing.T) {
	for s, want := range map[string]string{
		"select t.i1 as x, s2 as y from t join u on t.i1 = u.i1":                                                                   "project/2[#0, #4](join/5[(#0 = #3)](scan/3, scan:1/2))",
		"select u.i1 as x from t left join u on s1 = s2":                                                                           "project/1[#3](left/5[(#2 = #4)](scan/3, scan:1/2))",
		"select a.i1 as x from t as a join t visible as b on a.b1":                                                                 "project/1[#0](join/6[#1](scan/3, visible/3))",
		"select b.s1 as x from t visible as a left join t as b on b.b1 or a.b1":                                                    "project/1[#5](left/6[(#4 or #1)](visible/3, scan/3))",
		"select b2 as x from u join t on true left join v on i3 = u.i1 and i2 = t.i1":                                              "project/1[#5](left/9[((#8 = #0) and (#7 = #2))](join/5[bool:1](scan:1/2, scan/3), scan:2/4))",
		"select b2 as x from u left join t on null join v on i2 > 1 where b3":                                                      "project/1[#5](select/9[#6](join/9[(#7 > 1)](left/5[null](scan:1/2, scan/3), scan:2/4)))",
		"select y as x from (select i1 as x, s1 as y from t) as q":                                                                 "project/1[#1](project/2[#0, #2](scan/3))",
		"select q.y as x from (select 1 as y) as q join u on y = i1 where s2 = 'a'":                                                "project/1[#0](select/3[(#2 = text'a')](join/3[(#0 = #1)](project/1[1](one), scan:1/2)))",
		"select r.x as x from u join (select i1 as x from t limit 2) as r on r.x = u.i1":                                           "project/1[#2](join/3[(#2 = #0)](scan:1/2, limit:2/1(project/1[#0](scan/3))))",
		"select z as x from (select 1 as z union select i1 as w from t) as q":                                                      "project/1[#0](union/1(project/1[1](one), project/1[#0](scan/3)))",
		"select z as x from (select z as z, n as m from (select s1 as z, count(*) as n from t group by s1) as p) as q where m > 1": "project/1[#0](select/2[(#1 > 1)](project/2[#0, #1](project/2[#0, #1](group/2 by[2] of[count()](scan/3)))))",
		"select i1 as x from t join v on exists (select 1 as y from u where i1 = 2)":                                               "project/1[#0](join/7[exists{project/1[1](select/2[(#0 = 2)](scan:1/2))}](scan/3, scan:2/4))",
	} {
		planIs(t, s, want)
	}
}

// P10.1: the kinds that put two queries together, from the left.
func TestPlansOfTwo(t *testing.T) {
	a, b := "project/1[#0](scan/3)", "project/1[#0](scan:1/2)"
	for word, kind := range map[string]string{"union": "union", "union all": "unionall", "except": "except", "intersect": "intersect"} {
		planIs(t, "select i1 as x from t "+word+" select i1 as y from u", kind+"/1("+a+", "+b+")")
		planIs(t, "select 1 as x, 2 as y "+word+" select 3 as x, null as x", kind+"/2(project/2[1, 2](one), project/2[3, null](one))")
		planIs(t, "select i1 as x from t "+word+" select i1 as y from u union select 1 as x", "union/1("+kind+"/1("+a+", "+b+"), project/1[1](one))")
		planIs(t, "select i1 as x from t except (select i1 as y from u "+word+" select 1 as x)", "except/1("+a+", "+kind+"/1("+b+", project/1[1](one)))")
		planIs(t, "(select i1 as x from t limit 1) "+word+" (select distinct i1 as y from u)", kind+"/1(limit:1/1("+a+"), distinct/1("+b+"))")
	}
}

// P10.1: groups: Keys, Aggs, and what columns and Aggs are behind a group.
func TestPlansOfGroups(t *testing.T) {
	for s, want := range map[string]string{
		// columns that are grouped by twice, under both of their names, in another order than they stand
		"select i1 as x, t.i1 as y from t group by i1, t.i1, i1":       "project/2[#0, #0](group/3 by[0 0 0](scan/3))",
		"select s1 as x, i1 as y from t group by s1, i1, s1":           "project/2[#0, #1](group/3 by[2 0 2](scan/3))",
		"select i1 as x, s1 as y from t group by s1, s1, i1":           "project/2[#2, #0](group/3 by[2 2 0](scan/3))",
		"select i1 as x, count(*) as y from t group by s1, s1, i1":     "project/2[#2, #3](group/4 by[2 2 0] of[count()](scan/3))",
		"select u.i1 as x from t join u on b1 group by u.i1, t.i1":     "project/1[#0](group/2 by[3 0](join/5[#1](scan/3, scan:1/2)))",
		"select t.i1 as x from t join u on b1 group by u.i1, t.i1":     "project/1[#1](group/2 by[3 0](join/5[#1](scan/3, scan:1/2)))",
		"select x as y from (select i1 as x from t) as q group by q.x": "project/1[#0](group/1 by[0](project/1[#0](scan/3)))",
		// each ExAgg for itself, items first, from the left
		"select count(*) as a, count(*) as b from t":                                    "project/2[#0, #1](group/2 of[count(), count()](scan/3))",
		"select sum(i1) + sum(i1) * sum(i1) as a from t":                                "project/1[(#0 + (#1 * #2))](group/3 of[sum(#0), sum(#0), sum(#0)](scan/3))",
		"select max(s1) as a, min(i1) as b, count(b1) as c from t":                      "project/3[#0, #1, #2](group/3 of[max(#2), min(#0), count(#1)](scan/3))",
		"select s1 as a from t group by s1 having count(*) > 1":                         "project/1[#0](select/2[(#1 > 1)](group/2 by[2] of[count()](scan/3)))",
		"select max(i1) as a from t group by s1 having max(i1) > min(i1)":               "project/1[#1](select/4[(#2 > #3)](group/4 by[2] of[max(#0), max(#0), min(#0)](scan/3)))",
		"select s1 as a, -count(*) as b, 5 as c from t group by b1, s1 having b1":       "project/3[#1, neg(#2), 5](select/3[#0](group/3 by[1 2] of[count()](scan/3)))",
		"select count(i1 + 1) as a, max(case when b1 then s1 else 'x' end) as b from t": "project/2[#0, #1](group/2 of[count((#0 + 1)), max(case(#1, #2, text'x'))](scan/3))",
		"select max(1) as a":           "project/1[#0](group/1 of[max(1)](one))",
		"select max(:i) as a where :b": "project/1[#0](group/1 of[max(var'i')](select[var'b'](one)))",
		"select not (max(b1) is null) as a, case when max(b1) then min(i1) else 0 end as b from t": "project/2[not(is(#0)), case(#1, #2, 0)](group/3 of[max(#1), max(#1), min(#0)](scan/3))",
		// queries in items, in Having and in what is gathered are their own
		"select (select count(*) as x from u) as a from t":                                     "project/1[scalar{project/1[#0](group/1 of[count()](scan:1/2))}](scan/3)",
		"select (select max(s2) as x from u) as a, count(*) as b from t":                       "project/2[scalar{project/1[#0](group/1 of[max(#1)](scan:1/2))}, #0](group/1 of[count()](scan/3))",
		"select count(*) in (select i1 as x from u group by i1) as a from t":                   "project/1[in(#0){project/1[#0](group/1 by[0](scan:1/2))}](group/1 of[count()](scan/3))",
		"select sum(i1 + (select min(i2) as x from v)) as a from t":                            "project/1[#0](group/1 of[sum((#0 + scalar{project/1[#0](group/1 of[min(#2)](scan:2/4))}))](scan/3))",
		"select i1 as a from t group by i1 having exists (select count(*) as x from u)":        "project/1[#0](select/1[exists{project/1[#0](group/1 of[count()](scan:1/2))}](group/1 by[0](scan/3)))",
		"select i1 as a from t group by i1 having i1 in (select i1 as x from u) or b1 is null": "ErrShape",
		"select s1 as a, max(i1) as b from t group by s1 order by b desc, a limit 1":           "limit:1/2(order/2[#1, #0] desc[true false](project/2[#0, #1](group/2 by[2] of[max(#0)](scan/3))))",
		"select distinct count(*) as a from t group by s1":                                     "distinct/1(project/1[#1](group/2 by[2] of[count()](scan/3)))",
	} {
		planIs(t, s, want)
	}
}

// P10.1: types' errors, of Node and of Plan, and nothing beside.
func TestErrors(t *testing.T) {
	for s, want := range map[string]string{
		"nosuch": "ErrName", ":nosuch": "ErrName", "both": "ErrName", "count(*)": "ErrShape", "max(bare)": "ErrShape", "b + 1": "ErrType", "not bare": "ErrType", "s || 1": "ErrType",
		"(select 1 as x, 2 as y)": "ErrShape", "exists (select i1 as x from nosuch)": "ErrName", "nosuch + count(*)": "ErrName", "count(*) + nosuch": "ErrShape",
		"case when 1 then 2 else 3 end": "ErrType", "bare in (select s1 as x from t)": "ErrType", "exists (select bare as x)": "ErrName",
	} {
		nodeIs(t, s, want)
	}
	for s, want := range map[string]string{
		"select 1 as x from nosuch": "ErrName", "select nosuch as x from t": "ErrName", "select i1 as x from t where nosuch": "ErrName", "select i1 as x from t order by i1": "ErrName",
		"select i1 as x from t join u on true": "ErrName", "select 1 as x from t join t on true": "ErrName", "select 1 as x, 2 as x order by x": "ErrName",
		"select i1 as x from t where i1": "ErrType", "select 1 as x union select 'a' as x": "ErrType", "select 1 as x except select 1 as x, 2 as y": "ErrType", "select 1 as x from t join u on 1": "ErrType",
		"select i1 as x from t where count(*) > 1": "ErrShape", "select i1 as x, count(*) as n from t": "ErrShape", "select s1 as x from t group by i1": "ErrShape", "select i1 as x from t group by 1": "ErrShape",
		"select max(max(i1)) as x from t": "ErrShape", "select i1 as x from t order by max(x)": "ErrShape", "select 1 as x from t group by i1 having 1": "ErrType",
		"select " + strings.Repeat("1 as x, ", api.MaxCols) + "1 as x": "ErrMany",
	} {
		planIs(t, s, want)
	}
	w := ours()
	if got := nodeAnswer(algebra.Node(w.c, w.vars, w.cols, api.Expr{})); got != "ErrForm" {
		t.Error(got)
	}
	if got := planAnswer(algebra.Plan(w.c, w.vars, api.Query{})); got != "ErrForm" {
		t.Error(got)
	}
	if got := planAnswer(algebra.Plan(w.c, w.vars, with(sel(num(1)), func(q *api.Query) { q.Having = one(yes()) }))); got != "ErrForm" {
		t.Error(got)
	}
	deep := num(1)
	for range api.MaxNest {
		deep = api.Expr{Kind: api.ExNeg, Kids: one(deep)}
	}
	if got := nodeAnswer(algebra.Node(w.c, w.vars, w.cols, deep)); got != "ErrDeep" {
		t.Error(got)
	}
	if got := planAnswer(algebra.Plan(w.c, w.vars, sel(deep))); got != "ErrDeep" {
		t.Error(got)
	}
}

// As deep, and as wide, as may be.
func TestEdges(t *testing.T) {
	x, want := "1", "1"
	for range api.MaxNest - 1 {
		x, want = "case when true then "+x+" else null end", "case(bool:1, "+want+", null)"
	}
	nodeIs(t, x, want)
	planIs(t, "select "+strings.Repeat("1 as x, ", api.MaxCols-1)+"2 as y order by y", fmt.Sprintf("order/%d[#%d] desc[false](project/%d[%s2](one))", api.MaxCols, api.MaxCols-1, api.MaxCols, strings.Repeat("1, ", api.MaxCols-1)))
	q, plan := "select 1 as x", "project/1[1](one)"
	for range 9 {
		q, plan = "select x as x from ("+q+") as q where x = 1", "project/1[#0](select/1[(#0 = 1)]("+plan+"))"
	}
	planIs(t, q, plan)
}

// Without a catalog, or with one that no call made, ErrNil is told ahead of all else.
func TestNil(t *testing.T) {
	for _, c := range []*schema.Catalog{nil, {}} {
		for what, x := range map[string]api.Expr{"right": num(1), "empty": {}, "no name": col("nosuch"), "no shape": agg("count"), "query": scalar(sel(num(1)))} {
			if got := nodeAnswer(algebra.Node(c, ourVars(), ourPlaces(), x)); got != "ErrNil" {
				t.Errorf("%s: %s", what, got)
			}
			if got := planAnswer(algebra.Plan(c, ourVars(), sel(x))); got != "ErrNil" {
				t.Errorf("%s: %s", what, got)
			}
		}
		if got := planAnswer(algebra.Plan(c, nil, api.Query{})); got != "ErrNil" {
			t.Error(got)
		}
	}
}

// Of a schema without tables there are queries, too.
func TestEmptySchema(t *testing.T) {
	w := worldOf(api.Schema{Levels: one("only")}, nil, nil)
	for s, want := range map[string]string{"select 1 as x": "project/1[1](one)", "select count(*) as n": "project/1[#0](group/1 of[count()](one))", "select 1 as x from t": "ErrName"} {
		if got := planAnswer(algebra.Plan(w.c, nil, readQuery(t, s))); got != want {
			t.Errorf("%s: %s, want %s", s, got, want)
		}
	}
}

// nodeHolds and planHolds hold what is answered against the second way, or types' error; they tell whether there is an answer.

func nodeHolds(t *testing.T, w world, x api.Expr) bool {
	t.Helper()
	_, err := types.Expr(w.c, w.vars, w.cols, x)
	want := errNames[err]
	if err == api.OK {
		want = writer{s: w.s}.expr(groupless(w.cols), x)
	}
	if got := nodeAnswer(algebra.Node(w.c, w.vars, w.cols, x)); got != want {
		t.Errorf("%s, want %s", got, want)
	}
	return err == api.OK
}

func planHolds(t *testing.T, w world, q api.Query) bool {
	t.Helper()
	_, err := types.Query(w.c, w.vars, q)
	want := errNames[err]
	if err == api.OK {
		want = writer{s: w.s}.query(q)
	}
	if got := planAnswer(algebra.Plan(w.c, w.vars, q)); got != want {
		t.Errorf("%s, want %s", got, want)
	}
	return err == api.OK
}

func TestSignatures(t *testing.T) {
	var _ func(c *schema.Catalog, vars []api.Var, cols []api.Place, x api.Expr) (api.Node, api.Errno) = algebra.Node
	var _ func(c *schema.Catalog, vars []api.Var, q api.Query) (api.Plan, api.Errno) = algebra.Plan
	var _ func(n api.Node) bool = algebra.Total
	var _ func(n api.Node) []int = algebra.Uses
	var _ func(p api.Plan) api.Plan = algebra.Norm
}
