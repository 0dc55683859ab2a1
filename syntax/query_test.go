package syntax_test

import (
	"strings"
	"testing"

	"cordon/api"
)

// P6.1, of queries.

func TestQueryExample(t *testing.T) {
	want := sel(item(col("a"), "x"))
	want.From = []api.From{table("t")}
	reads(t, queries(), "select a as x from t", want)
}

// Each part of a select stands behind those ahead of it, and each may be left out.
func TestSelectParts(t *testing.T) {
	parts := []struct {
		text string
		put  func(q *api.Query)
	}{
		{"from t", func(q *api.Query) { q.From = []api.From{table("t")} }},
		{"where b", func(q *api.Query) { q.Where = []api.Expr{col("b")} }},
		{"group by c", func(q *api.Query) { q.Group = []api.Expr{col("c")} }},
		{"having d", func(q *api.Query) { q.Having = []api.Expr{col("d")} }},
		{"order by e", func(q *api.Query) { q.Order = []api.Key{{E: col("e")}} }},
		{"limit 7", func(q *api.Query) { q.Limit = 7 }},
	}
	const group, having = 2, 3
	for set := range 1 << len(parts) {
		s, want := "select a as x", selA("a")
		for i, p := range parts {
			if set>>i&1 == 1 {
				s += " " + p.text
				p.put(&want)
			}
		}
		if set>>having&1 == 1 && set>>group&1 == 0 {
			refuses(t, queries(), s, strings.Index(s, "having"), api.ErrForm)
			continue
		}
		reads(t, queries(), s, want)
		want.Distinct = true
		reads(t, queries(), strings.Replace(s, "select", "select distinct", 1), want)
	}
	for i, early := range parts { // not the other way round, and not twice
		for _, late := range parts[i:] {
			ahead := "select a as x " + late.text + " "
			if late.text == parts[having].text {
				ahead = "select a as x group by c having d "
			}
			refuses(t, queries(), ahead+early.text, len(ahead), api.ErrForm)
		}
	}
}

func TestItems(t *testing.T) {
	reads(t, queries(), "select 1 as one, t.a as b, count(*) as n from t", with(
		sel(item(num(1), "one"), item(colOf("t", "a"), "b"), item(agg("count"), "n")),
		func(q *api.Query) { q.From = []api.From{table("t")} }))
	reads(t, queries(), "select a or b as count", sel(item(bin(col("a"), "or", col("b")), "count")))
	reads(t, queries(), "select distinct distinct1 as x", with(selA("distinct1"), func(q *api.Query) { q.Distinct = true }))
	for _, s := range []string{
		"select§", "select §as x", "select a§", "select a §from t", "select a as§", "select a as §1", "select a as §'x'", "select a as §from t", "select a as x §y", "select a §x",
		"select a as x,§", "select a as x, §from t", "select a as x, b§", "select §* from t", "select distinct§", "select distinct §distinct a as x", "select §all a as x", "select §, a as x",
	} {
		refusesHere(t, queries(), s, api.ErrForm)
	}
}

func TestGroupsAndKeys(t *testing.T) {
	a, b, c := col("a"), col("b"), col("c")
	reads(t, queries(), "select a as x group by a, b + c, t.c having a > 1", with(selA("a"), func(q *api.Query) {
		q.Group = []api.Expr{a, bin(b, "+", c), colOf("t", "c")}
		q.Having = []api.Expr{bin(a, ">", num(1))}
	}))
	reads(t, queries(), "select a as x order by a desc, b, - c desc", with(selA("a"), func(q *api.Query) {
		q.Order = []api.Key{{E: a, Desc: true}, {E: b}, {E: neg(c), Desc: true}}
	}))
	for _, s := range []string{
		"group§", "group §a", "group by§", "group by §having b", "group by a,§", "group by a having§", "group by a having b§, c", "group by a having b §having c",
		"group by a §desc", "group by a §where b", "order§", "order §a", "order by§", "order by §desc", "order by a,§", "order by a §b", "order by a desc §desc", "order by a §asc", "order by a, §limit 1",
		"where§", "where §group by a", "where a §where b", "where a§, b", "limit§", "limit §a", "limit §-1", "limit §'1'", "limit §(1)", "limit §:n", "limit 1 §+ 1", "limit 1§, 2", "limit 1 §limit 1", "limit §null", "§having a", "§distinct", "§desc", "§on a",
	} {
		refusesHere(t, queries(), "select a as x "+s, api.ErrForm)
	}
}

func TestLimits(t *testing.T) {
	for s, n := range map[string]int{"0": 0, "00": 0, "1": 1, "500": 500, "999999999999999999": 999999999999999999} {
		reads(t, queries(), "select a as x limit "+s, with(selA("a"), func(q *api.Query) { q.Limit = n }))
	}
	refusesHere(t, queries(), "select a as x limit §1000000000000000000", api.ErrForm)
}

func TestSources(t *testing.T) {
	q, a, b := selA("b"), col("a"), col("b")
	seen := api.From{Kind: api.FrTable, Table: "t", Visible: true, As: "t"}
	named := api.From{Kind: api.FrTable, Table: "t", As: "u"}
	both := api.From{Kind: api.FrTable, Table: "t", Visible: true, As: "u"}
	sub := api.From{Kind: api.FrQuery, As: "v", Q: []api.Query{q}}
	ones := map[string]api.From{
		"t": table("t"), "t visible": seen, "t as u": named, "t visible as u": both, "t as t": table("t"), "count": table("count"),
		"(select b as x) as v":                     sub,
		"((select b as x)) as v":                   sub,
		"(select b as x union select b as x) as v": {Kind: api.FrQuery, As: "v", Q: []api.Query{put(api.QuUnion, q, q)}},
	}
	for s, f := range ones {
		reads(t, queries(), "select a as x from "+s, from(f))
		for s2, f2 := range ones {
			reads(t, queries(), "select a as x from "+s+" join "+s2+" on a", from(join(api.FrJoin, f, f2, a)))
			reads(t, queries(), "select a as x from "+s+" left join "+s2+" on a = b", from(join(api.FrLeft, f, f2, bin(a, "=", b))))
		}
	}
	reads(t, queries(), "select a as x from t join u on a left join v on b join w on a or b where a", with(
		from(join(api.FrJoin, join(api.FrLeft, join(api.FrJoin, table("t"), table("u"), a), table("v"), b), table("w"), bin(a, "or", b))),
		func(q *api.Query) { q.Where = []api.Expr{a} }))
	for _, s := range []string{
		"§", "§where a", "§1", "§'t'", "§:t", "§left join t on a", "§visible", "t§, u", "t §u", "t§.a", "t§(a)", "t as§", "t as §visible", "t as u §visible", "t visible §visible", "t as u §as v", "t visible as§",
		"(§t) as u", "(§)", "(select a as x§", "(select a as x)§", "(select a as x) §u", "(select a as x) §visible as u", "(select a as x) as§", "(select a as x) §union select a as x",
		"t join§", "t join §join u on a", "t join u§", "t join u §where a", "t join u on§", "t join u on §where a", "t join u on a §on b", "t left§", "t left §u", "t left §left join u on a", "t left join§", "t §on a", "t join u §left join v on a", "t §right join u on a",
	} {
		refusesHere(t, queries(), "select a as x from "+s, api.ErrForm)
	}
}

func TestTogether(t *testing.T) {
	a, b, c, d := selA("a"), selA("b"), selA("c"), selA("d")
	kinds := map[string]int{"union": api.QuUnion, "union all": api.QuUnionAll, "except": api.QuExcept, "intersect": api.QuIntersect}
	const sa, sb, sc, sd = "select a as x", "select b as x", "select c as x", "select d as x"
	for x, k := range kinds {
		reads(t, queries(), sa+" "+x+" "+sb, put(k, a, b))
		for y, l := range kinds {
			reads(t, queries(), sa+" "+x+" "+sb+" "+y+" "+sc, put(l, put(k, a, b), c))
			reads(t, queries(), sa+" "+x+" ("+sb+" "+y+" "+sc+")", put(k, a, put(l, b, c)))
			reads(t, queries(), "("+sa+" "+x+" "+sb+") "+y+" ("+sc+")", put(l, put(k, a, b), c))
			for z, m := range kinds {
				reads(t, queries(), sa+" "+x+" "+sb+" "+y+" "+sc+" "+z+" "+sd, put(m, put(l, put(k, a, b), c), d))
			}
			refuses(t, queries(), sa+" "+x+" "+y+" "+sb, len(sa+" "+x+" "), api.ErrForm)
		}
		refuses(t, queries(), sa+" "+x, len(sa+" "+x), api.ErrForm)
		refuses(t, queries(), sa+" "+x+" a", len(sa+" "+x+" "), api.ErrForm)
		refuses(t, queries(), x+" "+sa, 0, api.ErrForm)
		refuses(t, queries(), "("+sa+" "+x+")", len("("+sa+" "+x), api.ErrForm)
	}
	reads(t, queries(), sa+" order by a limit 1 union all "+sb+" limit 2", put(api.QuUnionAll,
		with(a, func(q *api.Query) { q.Order, q.Limit = []api.Key{{E: col("a")}}, 1 }), with(b, func(q *api.Query) { q.Limit = 2 })))
	refusesHere(t, queries(), sa+" except §all "+sb, api.ErrForm)
	refusesHere(t, queries(), sa+" intersect §all "+sb, api.ErrForm)
	refusesHere(t, queries(), sa+" union all §all "+sb, api.ErrForm)
	refusesHere(t, queries(), sa+" union §distinct "+sb, api.ErrForm)
	refusesHere(t, queries(), sa+" §all "+sb, api.ErrForm)
}

func TestPartsInBrackets(t *testing.T) {
	reads(t, queries(), "(select a as x)", selA("a"))
	reads(t, queries(), "(((select a as x)))", selA("a"))
	reads(t, queries(), "((select a as x) except (select b as x))", put(api.QuExcept, selA("a"), selA("b")))
	for _, s := range []string{
		"§", "(§", "(§)", "(§a)", "((§a))", "§a", "§1", "§)", "(select a as x§", "(select a as x)§)", "(select a as x) §limit 1", "(select a as x) §order by a", "(select a as x) §where a", "(select a as x) §as y", "(select a as x) §select b as y", "select a as x§;", "(select a as x)§(select a as x)",
	} {
		refusesHere(t, queries(), s, api.ErrForm)
	}
}
