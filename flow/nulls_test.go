package flow_test

import (
	"slices"
	"testing"

	"cordon/api"
	"cordon/flow"
	"cordon/schema"
)

const nullTables = "table n rows low (x int null low, y int low, p bool null high, q bool a, s text null b, r text b); table m rows a (u int null low, w int low) hide high when w = 1;"

// nullsTold are columns as digits: 1 may be null.
func nullsTold(c *schema.Catalog, p api.Plan) string {
	out := ""
	for _, may := range flow.Nulls(c, p) {
		out += map[bool]string{true: "1", false: "0"}[may]
	}
	return out
}

// nulls holds queries to which of their columns may be null.
func (b bench) nulls(t *testing.T, texts ...string) {
	t.Helper()
	for _, c := range b {
		for two := range slices.Chunk(texts, 2) {
			check(t, two[0], nullsTold(c, planOf(t, c, two[0])), two[1])
		}
	}
}

// P18.2, expression by expression.
func TestNullsOfExpressions(t *testing.T) {
	b := benchOf(nullTables)
	for two := range slices.Chunk(one(
		"null", "1", "true", "0", "false", "0", "7", "0", "'x'", "0", "''", "0",
		"x", "1", "y", "0", "n.p", "1", "n.q", "0", ":v", "1", ":w", "1",
		"-x", "1", "-y", "0", "-1", "0", "- -y", "0", "-null", "1", "not p", "1", "not q", "0", "not true", "0", "not :w", "1",
		"x is null", "0", "x is not null", "0", "null is null", "0", "y is null", "0",
		"y + y", "0", "x + y", "1", "y - x", "1", "x * x", "1", "y / 0", "0", "y % 2", "0", "y / null", "1", "r || r", "0", "r || s", "1", "s || 'x'", "1",
		"y = y", "0", "y <> x", "1", "x < y", "1", "y <= y", "0", "y > 1", "0", "1 >= :v", "1",
		"q and q", "0", "q and p", "1", "p or q", "1", "q or not q", "0", "q or true", "0", "p and false", "1", "null or true", "1",
		"case when p then y else y end", "0", "case when null then 1 else 2 end", "0", "case when q then x else y end", "1", "case when q then y else x end", "1", "case when q then null else y end", "1", "case when q then y else null end", "1",
		"exists (select u as x from m)", "0", "exists (select null as x)", "0",
		"y in (select w as x from m)", "0", "x in (select w as x from m)", "1", "y in (select u as x from m)", "1", "x in (select u as x from m)", "1", "y not in (select w as x from m)", "0", "y not in (select u as x from m)", "1", "1 in (select -w as x from m where u > 1)", "0",
		"y in (select m.w as x from m left join n on true)", "0", "y in (select m.w as x from n left join m on true)", "1", "y in (select count(*) as x from m)", "0", "y in (select max(w) as x from m)", "1",
		"(select w as x from m)", "1", "(select 1 as x)", "1", "(select count(*) as x from m)", "1", "(select w as x from m) is null", "0", "-(select 1 as x)", "1",
	), 2) {
		b.nulls(t, "select "+two[0]+" as z from n", two[1], "select 1 as o, "+two[0]+" as z, null as p from n where x > 1", "0"+two[1]+"1")
	}
}

// P18.2, of each kind of plan.
func TestNullsOfPlans(t *testing.T) {
	benchOf(nullTables).nulls(t,
		"select 1 as a", "0",
		"select null as a, 1 as b, :v as c", "101",
		"select x as a, y as b, p as c, q as d, s as e, r as f from n", "101010",
		"select x as a, y as b, p as c, q as d, s as e, r as f from n visible", "101010",
		"select u as a, w as b from m visible", "10",
		"select u as a, w as b from m where u is not null", "10",
		"select y as a, x as b from n order by a, b desc limit 3", "01",
		"select distinct y as a, x as b from n", "01",
		"select x as a, y as b, u as c, w as d from n join m on x = u", "1010",
		"select x as a, y as b, u as c, w as d from n left join m on x = u", "1011",
		"select w as a, u as b, y as c, x as d from m left join n on true", "0111",
		"select n.y as a, m.w as b, o.w as c from n join m on true left join m as o on true", "001",
		"select n.y as a, m.w as b, o.w as c from n left join m on true join m as o on true", "010",
		"select a as c, b as d from (select y as a, x as b from n) as z", "01",
		"select m.w as a, z.b as b from m left join (select y as a, 1 as b from n) as z on true", "01",
		// groups
		"select x as a, y as b from n group by x, y", "10",
		"select y as a, x as b, y as c from n group by y, x", "010",
		"select count(*) as a, count(x) as b, count(y) as c from n", "000",
		"select sum(y) as a, min(y) as b, max(y) as c from n", "111",
		"select y as a, count(*) as b, sum(y) as c, min(y) as d, max(y) as e, count(p) as f, x as g from n group by y, x", "0011101",
		"select q as a, count(*) + 1 as b, max(y) + 1 as c, count(*) + x as d from n group by q, x having max(y) > 1", "0011",
		"select count(*) as a from n group by x", "0",
		"select m.w as a, count(*) as b from n left join m on true group by m.w", "10",
		// two that are put together
		"select y as a, x as b from n union select w as a, w as b from m", "01",
		"select w as a, w as b from m union all select y as a, x as b from n", "01",
		"select w as a, u as b, w as c, u as d from m union all select y as a, y as b, x as c, x as d from n", "0111",
		"select w as a, u as b, w as c, u as d from m union select y as a, y as b, x as c, x as d from n", "0111",
		"select w as a, u as b, w as c, u as d from m except select y as a, y as b, x as c, x as d from n", "0101",
		"select w as a, u as b, w as c, u as d from m intersect select y as a, y as b, x as c, x as d from n", "0101",
		"(select null as a union select 1 as a) except select 2 as a", "1",
		"select 1 as a except (select null as a union select 1 as a)", "0",
		"select 1 as a union (select 2 as a union all select null as a)", "1",
	)
}

// Plans that are not projected, put together by hand.
func TestNullsOfParts(t *testing.T) {
	c := benchOf(nullTables)[1]
	n, m := scan(1), scan(2)
	for _, w := range []struct {
		p    api.Plan
		want string
	}{
		{n, "101010"}, {m, "10"}, {visible(2), "10"}, {api.Plan{Kind: api.PlOne}, ""}, {above(api.PlSelect, m, yes()), "10"}, {above(api.PlOrder, m, neg(0)), "10"}, {above(api.PlLimit, m), "10"}, {above(api.PlDistinct, m), "10"},
		{pair(api.PlJoin, m, n, yes()), "10101010"}, {pair(api.PlLeft, m, n, yes()), "10111111"}, {pair(api.PlLeft, n, m, yes()), "10101011"}, {pair(api.PlLeft, pair(api.PlLeft, m, m), m), "101111"}, {pair(api.PlJoin, m, pair(api.PlLeft, m, m)), "101011"},
		{group(n, one(1, 0, 1)), "010"}, {group(n, nil, gather("count"), gather("count", col(0)), gather("sum", col(1)), gather("min", col(1)), gather("max", col(1))), "00111"}, {group(n, one(3, 2), gather("count")), "010"},
		{pair(api.PlUnion, m, above(api.PlProject, n, col(1), col(0))), "11"}, {pair(api.PlUnionAll, m, above(api.PlProject, n, col(1), col(1))), "10"}, {pair(api.PlExcept, m, above(api.PlProject, n, col(1), col(0))), "10"}, {pair(api.PlIntersect, above(api.PlProject, n, col(1), col(0)), m), "01"},
	} {
		check(t, w.p, nullsTold(c, w.p), w.want)
	}
}
