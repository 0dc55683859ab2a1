package engine_test

import (
	"testing"

	"cordon/api"
)

// Groups by one column and more, in the order in which each came first; null is a group.
func TestGroups(t *testing.T) {
	answers(t,
		"select a as x, count(*) as n from t group by a", "(1 1) (2 2) (3 1)", "select count(*) as n, s as x from t group by s", "(2 'x') (1 'y') (1 null)",
		"select a as x, sum(c) as y from u group by a", "(1 40) (null 20) (2 null) (0 40)", "select a as x from t group by a", "(1) (2) (3)",
		"select s as x, b as y, count(*) as n from t group by b, s", "('x' false 2) ('y' true 1) (null null 1)", "select count(*) as n from t group by a, b", "(1) (1) (1) (1)",
		"select a as x, a as y, count(*) as n from t group by a, a", "(1 1 1) (2 2 2) (3 3 1)", "select a as x, count(*) as n from e group by a", "none",
		"select a + 1 as x, max(s) || '!' as y from t group by a", "(2 'x!') (3 'y!') (4 'x!')", "select a as x, count(*) as n from t visible group by a", "(1 1) (2 1) (3 1)",
		"select max(a) as x, min(a) as y, max(a) - min(a) as z from t group by s", "(3 1 2) (2 2 0) (2 2 0)",
	)
}

// Without Group one group of all rows, also if there are none.
func TestOneGroup(t *testing.T) {
	answers(t,
		"select count(*) as n from t", "(4)", "select count(*) as n from e", "(0)", "select count(*) as n, count(a) as m, sum(a) as s, min(a) as x, max(a) as y from e", "(0 0 null null null)",
		"select count(*) as n, count(a) as m, sum(a) as s, min(a) as x, max(a) as y from u", "(5 4 4 0 2)", "select count(*) as n", "(1)", "select count(*) as n where false", "(0)",
		"select sum(a) as n from t where a > 5", "(null)", "select max(1) as x", "(1)", "select count(null) as n from t", "(0)", "select count(*) + count(b) as n from t", "(7)",
		"select 1 as x from t where exists (select count(*) as n from e)", "(1) (1) (1) (1)", "select count(1 / 0) as n from e", "(0)",
	)
	check(t, "no gatherings", runs(api.Plan{Kind: api.PlGroup, Kids: one(scan(3))}), "()")
	check(t, "no gatherings", runs(api.Plan{Kind: api.PlGroup, Kids: one(scan(0))}), "()")
}

// Gatherings of each name, with nulls, of each type.
func TestGatherings(t *testing.T) {
	answers(t,
		"select count(b) as n, min(b) as x, max(b) as y from t", "(3 false true)", "select count(s) as n, min(s) as x, max(s) as y from t", "(3 'x' 'y')",
		"select count(c) as n, sum(c) as s, min(c) as x, max(c) as y from u", "(4 100 10 40)", "select min(null) as x, max(null) as y, sum(null) as z, count(null) as n from u", "(null null null 0)",
		"select sum(-a) as x, min(-a) as y, max(a * a) as z, count(a = 1) as n from u", "(-4 -2 4 4)", "select a as x, count(c) as n, min(c) as m from u group by a", "(1 2 10) (null 1 20) (2 0 null) (0 1 40)",
		"select sum(a) as x, sum(a) as y from t", "(8 8)", "select count(*) as n, count(true) as m, count(false) as o from u", "(5 5 5)",
	)
}

// Having: groups of which it is true; it may gather what no item does.
func TestHaving(t *testing.T) {
	answers(t,
		"select a as x from t group by a having count(*) > 1", "(2)", "select a as x from t group by a having true", "(1) (2) (3)", "select a as x from t group by a having false", "none",
		"select a as x from t group by a having null", "none", "select a as x from u group by a having sum(c) > 25", "(1) (0)", "select a as x, count(*) as n from u group by a having a is null", "(null 1)",
		"select a as x from t group by a having 1 / (a - 3) > 5", "ErrZero", "select a as x from t group by a having 1 / (count(*) - 2) > 5", "ErrZero", "select a as x from e group by a having 1 / 0 = 1", "none",
		"select s as x, sum(a) as y from t group by s having min(a) = 1 or max(a) = 2 order by y", "('y' 2) (null 2) ('x' 4)",
		"select 1 / (a - 2) as x from t group by a having a <> 2", "(-1) (1)", "select 1 / (a - 2) as x from t group by a", "ErrZero",
	)
}

// Kids row by row, and of each row gathering by gathering; only then Fold, group by group, and of each group gathering by gathering.
func TestGatherErrors(t *testing.T) {
	answers(t,
		"select sum(1 / a) as x from u", "ErrZero", "select count(1 / a) as x from u", "ErrZero", "select count(1 / a) as x from u where a > 0", "(3)",
		"select count(1 / 0) as x, count(:most + 1) as y from t", "ErrZero", "select count(:most + 1) as x, count(1 / 0) as y from t", "ErrOver",
		"select count(1 / (a - 3)) as x, count(:most + a - 1) as y from t", "ErrOver", "select count(1 / (a - 1)) as x, count(:most + a) as y from t", "ErrZero",
		"select sum(:most) as x from t", "ErrOver", "select sum(:most) as x, count(1 / (a - 3)) as y from t", "ErrZero", "select count(1 / (a - 3)) as y, sum(:most) as x from t", "ErrZero",
		"select a as x, sum(:most) as y from t group by a", "ErrOver", "select a as x, sum(:most) as y from t where b is not null group by a", "(1 9223372036854775807) (2 9223372036854775807) (3 9223372036854775807)",
	)
}

// An error in a kid at a late row comes ahead of one in Fold of an early group; of two in Fold that of the earlier group, and then that of the earlier gathering, comes first.
func TestFoldErrors(t *testing.T) {
	answers(t,
		"select a as x, sum(case when a = 2 then :most else 0 end) as y, max(1 / (a - 3)) as z from t group by a", "ErrZero",
		"select a as x, max(a) as y, sum(case when a = 2 then :most else 0 end) as z from t group by a having 1 / 0 = 1", "ErrOver",
	)
	of := func(fn string, e ...api.Node) api.Gather { return api.Gather{Fn: fn, E: e} }
	group := func(keys []int, aggs ...api.Gather) string {
		return runs(api.Plan{Kind: api.PlGroup, Kids: one(scan(0)), Keys: keys, Aggs: aggs, Width: len(keys) + len(aggs)})
	}
	// The sum of most is too great in the second group (by a) alone; that of a text is none in the first one.
	over, text := of("sum", nodeOf(t, ":most")), of("sum", at(2))
	for _, c := range []struct {
		got, want string
	}{
		{group(nil, over, text), "ErrOver"}, {group(nil, text, over), "ErrType"}, {group(one(0), over, text), "ErrType"}, {group(one(0), text, over), "ErrType"},
		{group(one(0), over, of("avg")), "ErrArg"}, {group(nil, over, of("avg")), "ErrOver"}, {group(nil, of(""), over), "ErrArg"},
		{group(nil, over, of("max", nodeOf(t, "1 / 0"))), "ErrZero"}, {group(nil, of("avg"), of("max", nodeOf(t, "1 / 0"))), "ErrZero"},
		{group(one(0, 2), of("count")), "(1 'x' 1) (2 'y' 1) (2 null 1) (3 'x' 1)"}, {group(one(2, 0), of("count", at(1)), of("max", at(0))), "('x' 1 1 1) ('y' 2 1 2) (null 2 0 2) ('x' 3 1 3)"},
		{group(one(1), of("count"), of("min", at(2))), "(false 2 'x') (true 1 'y') (null 1 null)"},
	} {
		check(t, "a group", c.got, c.want)
	}
}
