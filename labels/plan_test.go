package labels_test

import (
	"testing"

	"cordon/api"
)

// P17.2 (Plan).

func TestTables(t *testing.T) {
	shapes(t,
		shape{api.Plan{Kind: api.PlOne}, "low:"},
		shape{scan(tableT), "low: low a b high low a b high low a"}, shape{visible(tableT), "low: low a b high low a b high low a"},
		shape{scan(tableU), "a: a a high high"}, shape{visible(tableU), "a: a a high high"},
		shape{scan(tableV), "b: low b"}, shape{visible(tableV), "low: low b"},
		shape{scan(tableM), "high: a a"}, shape{visible(tableM), "a: a a"},
		shape{scan(tableK), "b: b"}, shape{visible(tableK), "b: b"},
	)
	sheets(t,
		"select 1 as x", "low: low", "select :va as x, :vb as y, :none as z", "low: a b low", "select -:va as x", "low: a raises a",
		"select i as x, ia as y, ib as z, ih as w from t", "low: low a b high", "select z as z, x as x from u", "a: high a", "select i as i, j as j from v", "b: low b", "select i as i from v visible", "low: low", "select j as x from m", "high: a", "select j as x from m visible", "a: a",
	)
}

// A select's node says which rows there are; what it raises hangs on the rows below it, not on itself.
func TestSelect(t *testing.T) {
	sheets(t,
		"select i as x from t where true", "low: low", "select i as x from t where pa", "a: low", "select ib as x from t where pa", "a: b", "select i as x from t where pa and pb", "high: low", "select i as x from t where i > :vb", "b: low", "select x as x from u where z > 1", "high: a", "select i as x from v where i > :va", "high: low",
		"select i as x from t where -i = 1", "low: low raises low", "select i as x from t where -ia = 1", "a: low raises a", "select i as x from t where -i = ib", "b: low raises low", "select i as x from t where pa and -ib = 1", "high: low raises b", "select i as x from v where -i = 1", "b: low raises b", "select i as x from v visible where -i = 1", "low: low raises low", "select n as x from k where -n = :va", "high: b raises b", "select x as x from u where -:vb = 1", "high: a raises high",
		"select x as x from (select i as x from t where pa) as q where -x = 1", "a: low raises a", "select x as x from (select i as x from t where -ia = 1) as q where x = :vb", "high: low raises a", "select x as x from (select i as x, pb as p from t where -ia = 1) as q where -x = 1", "a: low raises a", "select 1 as x where -:va = 1", "a: low raises a",
	)
	shapes(t,
		shape{above(api.PlSelect, scan(tableV), at(1)), "b: low b"}, shape{above(api.PlSelect, visible(tableV), neg(1)), "b: low b raises b"}, shape{above(api.PlSelect, scan(tableU), neg(2)), "high: a a high high raises high"},
		shape{above(api.PlSelect, above(api.PlSelect, scan(tableT), neg(a)), at(b2)), "high: low a b high low a b high low a raises a"}, shape{above(api.PlSelect, above(api.PlSelect, scan(tableT), at(a2)), neg(b)), "high: low a b high low a b high low a raises high"},
	)
}

func TestProject(t *testing.T) {
	sheets(t,
		"select ia + ib as x, i as y from t", "low: high low raises high", "select ih as x, -ia as y from t", "low: high a raises a", "select -ia as x, -ib as y, i as z from t", "low: a b low raises high", "select -i as x from v", "b: low raises b", "select -i as x from v visible", "low: low raises low", "select -j as x from v visible", "low: b raises b", "select -x as x from u", "a: a raises a", "select -1 as x from k", "b: low raises b", "select 1 as x from m", "high: low", "select 1 = 1 as x, ia is null as y from t", "low: low a",
		"select (select x as x from u) as x from t", "low: a raises a", "select (select i as x from t) as x from k", "b: low raises b", "select exists (select x as x from u) as x from k", "b: a", "select -x as y from (select -ia as x from t) as q", "low: a raises a", "select y as y from (select -ia as x, ib as y from t) as q", "low: b raises a", "select -y as y from (select -ia as x, ib as y from t) as q", "low: b raises high",
	)
	shapes(t, shape{above(api.PlProject, scan(tableV)), "b:"}, shape{above(api.PlProject, above(api.PlProject, scan(tableT), neg(a))), "low: raises a"}, shape{above(api.PlProject, scan(tableT), at(a), at(a), at(low)), "low: a a low"})
}

func TestOrder(t *testing.T) {
	sheets(t,
		"select ia as x, i as y from t order by y", "low: a low", "select ia as x, i as y from t order by x", "a: a low", "select ia as x, ib as y from t order by x, y", "high: a b", "select ia as x, ib as y from t order by y desc, x desc", "high: a b", "select i as x from v order by x", "b: low", "select i as x from t order by :va", "a: low", "select x as x from u order by :vb", "high: a", "select i as x from t order by 1", "low: low",
		"select ia as x from t order by -x", "a: a raises a", "select i as x, ih as y from t order by -x, y", "high: low high raises low", "select i as x, ib as y from t order by x, -y", "b: low b raises b", "select i as x from v order by -x", "b: low raises b", "select -ia as x, ib as y from t order by y", "b: a b raises a", "select -ia as x, ib as y from t order by -y", "b: a b raises high", "select i as x from t order by -:va, -:vb", "high: low raises high", "select x as x from u order by -:vb", "high: a raises high",
	)
	shapes(t, shape{above(api.PlOrder, scan(tableV)), "b: low b"}, shape{above(api.PlOrder, visible(tableV), neg(1), at(0)), "b: low b raises b"})
}

func TestLimitAndDistinct(t *testing.T) {
	sheets(t,
		"select ia as x from v join t on true limit 1", "b: a", "select ia as x from t limit 0", "low: a", "select i as x from v limit 0", "b: low", "select -ia as x from t limit 1", "low: a raises a", "select ia as x, i as y from t order by x limit 3", "a: a low",
		"select distinct i as x from t", "low: low", "select distinct ia as x, i as y from t", "a: a low", "select distinct ia as x, ib as y from t", "high: a b", "select distinct i as x from v", "b: low", "select distinct j as x from v visible", "b: b", "select distinct x as x from u", "a: a", "select distinct -ia as x from t", "a: a raises a", "select distinct 1 as x from k", "b: low", "select distinct ih as x from t order by 1 limit 2", "high: high", "select distinct i as x, ia as y from t order by -x", "a: low a raises a",
	)
	shapes(t,
		shape{above(api.PlDistinct, scan(tableT)), "high: low a b high low a b high low a"}, shape{above(api.PlDistinct, scan(tableV)), "b: low b"}, shape{above(api.PlDistinct, api.Plan{Kind: api.PlOne}), "low:"}, shape{above(api.PlLimit, api.Plan{Kind: api.PlOne}), "low:"},
		shape{above(api.PlLimit, above(api.PlSelect, scan(tableV), neg(0))), "b: low b raises b"}, shape{above(api.PlDistinct, above(api.PlLimit, above(api.PlProject, scan(tableT), neg(a), at(b)))), "high: a b raises a"},
	)
}

// Of joins, inner and left ones: rows and columns of both; what the node raises hangs on both.
func TestJoin(t *testing.T) {
	for _, join := range []string{"join", "left join"} {
		sheets(t,
			"select t.ia as x, v.j as y from t "+join+" v visible as v on true", "low: a b", "select t.ia as x, v.j as y from t "+join+" v on true", "b: a b", "select u.x as x, k.n as y from u "+join+" k on true", "high: a b", "select k.n as x, u.x as y from k "+join+" u on true", "high: b a", "select t.i as x from t "+join+" v visible as v on t.pa", "a: low", "select t.i as x from t "+join+" v visible as v on v.j = t.ia", "high: low", "select t.ia as x from t "+join+" v visible as v on v.i = :vb", "b: a",
			"select t.i as x from t "+join+" v visible as v on -t.i = 1", "low: low raises low", "select t.i as x from t "+join+" v on -t.ia = 1", "high: low raises high", "select t.i as x from t "+join+" v visible as v on -t.ia = 1", "a: low raises a", "select t.i as x from t "+join+" v visible as v on -v.j = t.ia", "high: low raises b", "select u.x as x from u "+join+" k on -1 = 1", "high: a raises high", "select u.x as x from u "+join+" t on -1 = t.ib", "high: a raises a", "select u.x as x from t "+join+" u on -1 = t.ib", "high: a raises a",
			"select q.x as x from (select -ia as x from t) as q "+join+" k on true", "b: a raises a", "select q.x as x from k "+join+" (select -ia as x from t) as q on true", "b: a raises a", "select q.x as x from (select -ia as x from t) as q "+join+" (select -ib as y from t) as r on true", "low: a raises high", "select q.x as x from (select -ia as x from t) as q "+join+" k on -1 = 1", "b: a raises high", "select q.x as x from (select -ia as x from t) as q "+join+" v visible as v on -v.i = 1", "low: a raises a", "select q.x as x from (select -ia as x from t) as q "+join+" (select -ib as y from t) as r on -1 = 1", "low: a raises high",
			"select 1 as x from u "+join+" t on true "+join+" k on true", "high: low", "select 1 as x from t "+join+" v visible as v on -t.i = 1 "+join+" k on true", "b: low raises low", "select 1 as x from t "+join+" k on true "+join+" v visible as v on -v.i = 1", "b: low raises b",
			"select t.i as x from t "+join+" v visible as v on exists (select x as x from u)", "a: low", "select t.i as x from t "+join+" k on (select pa as x from t)", "high: low raises b",
		)
	}
	for _, kind := range []int{api.PlJoin, api.PlLeft} {
		shapes(t,
			shape{pair(kind, scan(tableV), scan(tableU), yes()), "high: low b a a high high"}, shape{pair(kind, scan(tableU), visible(tableV), at(5)), "high: a a high high low b"}, shape{pair(kind, visible(tableV), scan(tableU), at(0)), "a: low b a a high high"},
			shape{pair(kind, visible(tableV), visible(tableV), neg(2)), "low: low b low b raises low"}, shape{pair(kind, visible(tableV), visible(tableV), neg(3)), "b: low b low b raises b"}, shape{pair(kind, api.Plan{Kind: api.PlOne}, scan(tableK), at(0)), "b: b"}, shape{pair(kind, scan(tableK), api.Plan{Kind: api.PlOne}, at(0)), "b: b"},
		)
	}
}

// By no column there is one group, whatever rows there are: these are in what is gathered.
func TestGroupByNone(t *testing.T) {
	sheets(t,
		"select count(*) as n from t", "low: low", "select count(*) as n from u", "low: a", "select count(*) as n from v", "low: b", "select count(*) as n from v visible", "low: low", "select count(ia) as n from t", "low: a", "select count(ia) as n, count(*) as m from t where pb", "low: high b",
		"select min(ia) as x, max(ib) as y from t", "low: a b", "select max(i) as x from v", "low: b", "select min(1) as x from k", "low: b", "select 1 as x, count(*) as n from k", "low: low b",
		"select sum(i) as x from t", "low: low raises low", "select sum(ia) as x from t", "low: a raises a", "select sum(i) as x from v", "low: b raises b", "select sum(i) as x from v visible", "low: low raises low", "select sum(j) as x from v visible", "low: b raises b", "select sum(1) as x from k", "low: b raises b", "select sum(ia) as x, max(ib) as y from t", "low: a b raises a", "select sum(ia) as x, sum(ib) as y from t", "low: a b raises high", "select sum(x) as x from u where x > :vb", "low: high raises high",
		"select count(-ia) as n from t", "low: a raises a", "select count(-i) as n from v", "low: b raises b", "select min(-i) as n from v visible", "low: low raises low", "select max(-ia) as n, min(ib) as m from t", "low: a b raises a", "select sum(-ia) as n from t", "low: a raises a", "select count(*) as n from (select -ia as x from t) as q", "low: low raises a", "select count(*) as n from t where -ia = 1", "low: a raises a", "select sum(y) as n from (select -ia as x, ib as y from t) as q", "low: b raises high",
		"select -count(*) as n from v", "low: b raises b", "select -count(*) as n from v visible", "low: low raises low", "select count(*) + max(ia) as n from t", "low: a raises a", "select count(*) as n from v order by n", "b: b", "select distinct count(*) as n from v", "b: b", "select count(*) as n from v limit 1", "low: b", "select x as x from (select count(*) as x from v) as q where x > 1", "b: b",
	)
	shapes(t,
		shape{group(scan(tableV), nil), "low:"}, shape{group(scan(tableV), []int{}, gather("count"), gather("count", at(1)), gather("min", at(0)), gather("max", yes())), "low: b b b b"}, shape{group(visible(tableV), nil, gather("count"), gather("count", at(1)), gather("min", at(0)), gather("max", at(1))), "low: low b low b"},
		shape{group(visible(tableV), nil, gather("sum", at(0)), gather("count", neg(1))), "low: low b raises b"}, shape{group(visible(tableV), nil, gather("sum", at(1)), gather("count", neg(0))), "low: b low raises b"}, shape{group(above(api.PlSelect, scan(tableT), neg(a)), nil), "low: raises a"},
		// Having, of one group
		shape{above(api.PlSelect, group(scan(tableV), nil, gather("count")), at(0)), "b: b"}, shape{above(api.PlSelect, group(visible(tableV), nil, gather("count")), at(0)), "low: low"}, shape{above(api.PlSelect, group(scan(tableV), nil, gather("count")), neg(0)), "b: b raises b"}, shape{above(api.PlSelect, group(scan(tableV), nil, gather("count")), node(api.ExNeg, yes())), "low: b raises low"}, shape{above(api.PlSelect, group(visible(tableT), nil, gather("sum", at(a)), gather("max", at(b))), at(1)), "b: a b raises a"},
	)
}

// By some columns: these say which groups there are, and which rows are summed up together.
func TestGroupBySome(t *testing.T) {
	sheets(t,
		"select i as x from t group by i", "low: low", "select ia as x from t group by ia", "a: a", "select 1 as x from t group by ia", "a: low", "select ia as x, i as y from t group by ia, i", "a: a low", "select ib as x, ia as y from t group by ia, ib", "high: b a", "select ib as x from t group by ia, ib", "high: b", "select i as x from v group by i", "b: low", "select x as x from u group by z, x", "high: a",
		"select ia as x, count(*) as n from t group by ia", "a: a low", "select i as x, count(*) as n from v group by i", "b: low low", "select ia as x, count(ib) as n from t group by ia", "a: a b", "select i as x, count(ib) as n, max(ia) as m, min(ih) as k from t group by i", "low: low b a high",
		"select i as x, sum(i) as n from t group by i", "low: low low raises low", "select ia as x, sum(i) as n from t group by ia", "a: a low raises a", "select i as x, sum(ia) as n from t group by i", "low: low a raises a", "select ia as x, sum(ib) as n from t group by ia", "a: a b raises high", "select i as x, sum(i) as n from v group by i", "b: low low raises b", "select sum(1) as n from t group by ia, ib", "high: low raises high", "select sum(x) as n from u group by z", "high: a raises high", "select sum(x) as n from u group by x", "a: a raises a", "select ia as x, sum(i) as n, max(ib) as m from t group by ia", "a: a low b raises a",
		"select ia as x, count(-i) as n from t group by ia", "a: a low raises low", "select ia as x, count(-ib) as n from t group by ia", "a: a b raises b", "select i as x, min(-i) as n from v group by i", "b: low low raises b", "select ia as x, sum(-ib) as n from t group by ia", "a: a b raises high", "select ib as x, max(-i) as n from t where pa group by ib", "high: b low raises a", "select y as y from (select -ia as x, ib as y from t) as q group by y", "b: b raises a",
		// Having
		"select ia as x from t group by ia having count(*) > 1", "a: a", "select ia as x from t group by ia having count(ib) > 1", "high: a", "select ia as x from t group by ia having sum(i) > 1", "a: a raises a", "select ia as x from t group by ia having sum(ib) > 1", "high: a raises high", "select ia as x from t group by ia having -ia > 1", "a: a raises a", "select ia as x from t group by ia having -count(*) > 1", "a: a raises a", "select i as x from t group by i having max(ib) > :va", "high: low", "select i as x from t group by i having -max(i) = max(ib)", "b: low raises low", "select ia as x from t group by ia, ib having -max(i) = 1", "high: a raises high", "select i as x, max(ia) as y from t group by i having -min(i) = 1 order by y", "a: low a raises low",
	)
	shapes(t,
		shape{group(scan(tableV), one(0)), "b: low"}, shape{group(visible(tableV), one(1)), "b: b"}, shape{group(visible(tableV), one(0)), "low: low"}, shape{group(visible(tableV), one(1, 0, 1)), "b: b low b"}, shape{group(visible(tableV), one(0), gather("count"), gather("max", at(1))), "low: low low b"},
		shape{group(scan(tableU), one(1), gather("count"), gather("count", at(2)), gather("sum", at(0))), "a: a low high a raises a"}, shape{group(scan(tableT), one(a), gather("sum", at(low)), gather("min", at(b))), "a: a low b raises a"}, shape{group(above(api.PlSelect, scan(tableT), at(b2)), one(a), gather("sum", at(low))), "high: a low raises high"}, shape{group(above(api.PlSelect, scan(tableT), at(b2)), one(a), gather("max", neg(low))), "high: a low raises b"},
	)
}

// Of two that are put together, of which the second, the first, and both tell more.
func TestTwo(t *testing.T) {
	for _, two := range [][4]string{
		// the first; the second; union all; union
		{"select i as x from t", "select i as x from t", "low: low", "low: low"},
		{"select ia as x, i as y from t", "select ib as x, ia as y from t", "low: high a", "high: high a"},
		{"select i as x, ia as y from t", "select i as x, i as y from t", "low: low a", "a: low a"},
		{"select i as x from t", "select i as x from v", "b: low", "b: low"},
		{"select i as x from v", "select i as x from v visible", "b: low", "b: low"},
		{"select x as x from u", "select n as x from k", "high: high", "high: high"},
		{"select 1 as x from u", "select 2 as x from k", "high: low", "high: low"},
		{"select 1 as x from u", "select ib as x from t", "a: b", "high: b"},
		{"select -ia as x from t", "select i as x from t", "low: a raises a", "a: a raises a"},
		{"select i as x from t", "select -ia as x from t", "low: a raises a", "a: a raises a"},
		{"select -ia as x from t", "select -ib as x from t", "low: high raises high", "high: high raises high"},
		{"select i as x from t where -ia = 1", "select n as x from k", "high: b raises a", "high: b raises a"},
		{"select 1 as x", "select :va as x", "low: a", "a: a"},
	} {
		sheets(t, two[0]+" union all "+two[1], two[2], two[0]+" union "+two[1], two[3])
		sheets(t, two[1]+" union all "+two[0], two[2], two[1]+" union "+two[0], two[3])
	}
	for _, mark := range []string{" except ", " intersect "} {
		for _, two := range [][3]string{
			{"select i as x from t", "select i as x from t", "low: low"},
			{"select i as x from t", "select ia as x from t", "a: low"},
			{"select ia as x from t", "select i as x from t", "a: a"},
			{"select ia as x from t", "select ib as x from t", "high: a"},
			{"select ia as x, i as y from t", "select ib as x, ia as y from t", "high: a low"},
			{"select i as x, i as y from t", "select i as x, ib as y from t", "b: low low"},
			{"select i as x from t", "select i as x from v", "b: low"},
			{"select i as x from v", "select i as x from t", "b: low"},
			{"select 1 as x from u", "select 1 as x from k", "high: low"},
			{"select x as x from u", "select n as x from k", "high: a"},
			{"select -ia as x from t", "select i as x from t", "a: a raises a"},
			{"select i as x from t", "select -ia as x from t", "a: low raises a"},
			{"select -ia as x from t", "select -ib as x from t", "high: a raises high"},
			{"select i as x from t where -ia = 1", "select n as x from k", "high: low raises a"},
			{"select 1 as x", "select :va as x", "a: low"},
		} {
			sheets(t, two[0]+mark+two[1], two[2])
		}
	}
}

// Queries in expressions, in From, and both within one another.
func TestWithin(t *testing.T) {
	sheets(t,
		"select x as x from (select ia as x from t union all select ib as x from t) as q", "low: high", "select x as x from (select ia as x from t union select ib as x from t) as q", "high: high", "select x as x from (select ia as x from t except select ib as x from t) as q where x > 0", "high: a",
		"select x as x, n as n from (select ia as x, count(*) as n from t group by ia) as q", "a: a low", "select sum(n) as s from (select ia as x, count(*) as n from t group by ia) as q", "low: a raises a", "select max(n) as s from (select i as i, count(ib) as n from t group by i) as q", "low: b",
		"select q.x as x, r.y as y from (select distinct ia as x from t) as q join (select y as y from (select ib as y from t limit 1) as p) as r on q.x = r.y", "high: a b", "select i as x from t where i in (select x as x from (select x as x from u) as q)", "a: low", "select i as x from t where i in (select n as x from k where n in (select x as x from u))", "high: low",
		"select x as x from (select i as x from t where exists (select x as x from u)) as q where exists (select n as n from k)", "high: low", "select x as x from (select i as x from t where (select x as x from u) = 1) as q where -x = 1", "a: low raises a", "select (select count(*) as n from k) as x, (select max(n) as n from (select count(ia) as n from t) as q) as y", "low: b a raises low", "select sum((select x as x from u)) as s from k", "low: high raises high", "select i as x, count((select x as x from u)) as n from t group by i", "low: low a raises a",
		"select x as x from (select ia as x from t order by x) as q limit 1", "a: a", "select 1 as x from t where exists (select -ih as x from t)", "low: low raises high",
	)
}
