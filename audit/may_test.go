package audit_test

import (
	"slices"
	"strings"
	"testing"

	"cordon/api"
	"cordon/audit"
	"cordon/labels"
	"cordon/schema"
)

// example 1 of the chapter: ann, at low, may ask for a of what is visible, and not for b.
func TestExample(t *testing.T) {
	c := catalogOf("levels low, high; order low < high; table t rows low (a int low, b int high); principal ann low;")
	checkErr(t, "a", audit.May(c, "ann", planOf(c, "select a as x from t visible")), api.OK)
	checkErr(t, "b", audit.May(c, "ann", planOf(c, "select b as x from t")), api.ErrFlow)
	d := storeOf(c, "1 5; 2 6")
	check(t, "a", askedTold(d, "ann", planOf(c, "select a as x from t visible")), "1; 2")
	check(t, "b", askedTold(d, "ann", planOf(c, "select b as x from t")), api.ErrFlow.Error())
}

// asking is a query over our tables, the levels of its sheet (Rows, Cols, and Raise, if it can raise something), and those at which it may be asked.
type asking struct{ query, rows, cols, raise, by string }

const everybody = "low a b high"

// asked are queries of each kind, of which each part of the sheet alone is not seen at some level.
func asked() []asking {
	return []asking{
		// nothing that is not seen
		{"select 1 as x", "low", "low", "", everybody}, {"select i as x from t", "low", "low", "", everybody}, {"select n as x from m visible", "low", "low", "", everybody}, {"select count(*) as x from t", "low", "low", "", everybody},
		// one of Cols alone: the only one, the first, the last, one in the middle, all
		{"select x as x from t", "low", "a", "", "a high"}, {"select y as x from t", "low", "b", "", "b high"}, {"select z as x from t", "low", "high", "", "high"},
		{"select x as x, i as y, i as z from t", "low", "a low low", "", "a high"}, {"select i as x, i as y, x as z from t", "low", "low low a", "", "a high"}, {"select i as x, x as y, i as z from t", "low", "low a low", "", "a high"},
		{"select y as x, i as y from t", "low", "b low", "", "b high"}, {"select i as y, y as x from t", "low", "low b", "", "b high"}, {"select x as x, y as y from t", "low", "a b", "", "high"}, {"select x as x, c as y from t join n on true", "low", "a a", "", "a high"},
		{"select i as x, x as y, y as z, z as w from t", "low", "low a b high", "", "high"}, {"select count(*) as x from h", "low", "high", "", "high"}, {"select count(*) as x from m", "low", "a", "", "a high"}, {"select max(y) as x from t", "low", "b", "", "b high"},
		// Rows alone
		{"select i as x from t where x > 1", "a", "low", "", "a high"}, {"select i as x from t where z", "high", "low", "", "high"}, {"select 1 as x from u", "a", "low", "", "a high"}, {"select k as x from h", "high", "low", "", "high"}, {"select n as x from m", "a", "low", "", "a high"},
		{"select 1 as x from g", "b", "low", "", "b high"}, {"select 1 as x from g visible", "b", "low", "", "b high"}, {"select 1 as x from t join u on true", "a", "low", "", "a high"}, {"select 1 as x from u join g on true", "high", "low", "", "high"},
		{"select i as x from t left join m visible on p > 0", "b", "low", "", "b high"}, {"select q.x as x from (select i as x, y as y from t order by y) as q", "b", "low", "", "b high"}, {"select q.x as x from (select distinct i as x, x as y from t) as q", "a", "low", "", "a high"},
		// Raise alone, and the same where nothing can be raised
		{"select 1 as x from (select 7 / x as y from t) as q", "low", "low", "a", "a high"}, {"select 1 as x from (select x as y from t) as q", "low", "low", "", everybody}, {"select count(*) as x from (select y || y as y from t) as q", "low", "low", "b", "b high"}, {"select count(*) as x from (select y as y from t) as q", "low", "low", "", everybody},
		{"select 1 as x from (select -x as a, y || y as b from t) as q", "low", "low", "high", "high"}, {"select 1 as x from (select sum(x) as s from t) as q", "low", "low", "a", "a high"}, {"select 1 as x from (select max(x) as s from t) as q", "low", "low", "", everybody}, {"select 1 as x from (select (select k as k from h) as k) as q", "low", "low", "high", "high"},
		// what can be raised is seen
		{"select -i as x from t", "low", "low", "low", everybody}, {"select 7 / 0 as x from t", "low", "low", "low", everybody}, {"select 7 / x as x from t", "low", "a", "a", "a high"}, {"select i as x from t where 7 / i > 1", "low", "low", "low", everybody}, {"select i as x from t where 7 / x > 1", "a", "low", "a", "a high"},
		// several parts at levels that stand beside one another
		{"select y as x from t where x > 1", "a", "b", "", "high"}, {"select x as x from t where y = 'x'", "b", "a", "", "high"}, {"select y as x from (select y as y, 7 / x as z from t) as q", "low", "b", "a", "high"}, {"select 1 as x from (select i as y, 7 / x as z from t where y = 'x') as q", "b", "low", "high", "high"},
		// hidden rows that are taken, and that are left out
		{"select k as x, f as y from h visible", "low", "low low", "", everybody}, {"select k as x, f as y from h", "high", "low low", "", "high"}, {"select s as x from h visible", "low", "high", "", "high"}, {"select count(*) as x from h visible", "low", "low", "", everybody}, {"select count(*) as x from m visible", "low", "low", "", everybody},
		{"select n as x, count(*) as y from m visible group by n", "low", "low low", "", everybody}, {"select n as x, count(*) as y from m group by n", "a", "low low", "", "a high"}, {"select p as x, count(*) as y from m visible group by p", "b", "b low", "", "b high"}, {"select n as x, sum(p) as y from m visible group by n", "low", "low b", "b", "b high"},
		// two that are put together
		{"select i as x from t union all select x as x from t", "low", "a", "", "a high"}, {"select i as x from t union select x as x from t", "a", "a", "", "a high"}, {"select i as x from t except select x as x from t", "a", "low", "", "a high"}, {"select i as x from t intersect select k as x from h visible", "low", "low", "", everybody},
		{"select i as x from t intersect select k as x from h", "high", "low", "", "high"}, {"select x as x from t limit 1", "low", "a", "", "a high"}, {"select i as x from t limit 0", "low", "low", "", everybody}, {"select distinct x as x from t", "a", "a", "", "a high"},
		// nodes that have plans, which have such again
		{"select i as x from t where exists (select k as k from h)", "high", "low", "", "high"}, {"select i as x from t where exists (select k as k from h visible)", "low", "low", "", everybody}, {"select i as x from t where i in (select v as v from u)", "a", "low", "", "a high"}, {"select i in (select p as p from m visible) as x from t", "low", "b", "", "b high"},
		{"select (select max(x) as m from t) as x", "low", "a", "low", "a high"}, {"select (select k as k from h) as x", "low", "high", "high", "high"}, {"select (select n as n from m visible) as x", "low", "low", "low", everybody}, {"select case when exists (select k as k from u) then 1 else 2 end as x", "low", "a", "", "a high"},
		{"select i as x from t where exists (select n as n from m visible where n in (select q as q from g))", "high", "low", "", "high"}, {"select i as x from t where exists (select n as n from m visible where n in (select k as k from h visible where exists (select 1 as o from g)))", "b", "low", "", "b high"}, {"select i as x from t where exists (select n as n from m visible where n in (select k as k from h visible))", "low", "low", "", everybody},
		// variables, which are not there
		{"select :v as x", "low", "low", "", everybody}, {"select i + :v as x from t where :w", "low", "low", "low", everybody}, {"select x + :v as x from t", "low", "a", "a", "a high"}, {"select i as x from t where i in (select k as k from h visible where k = :v)", "low", "low", "", everybody},
	}
}

// sheetIs tells whether a plan's sheet is as it is said to be.
func sheetIs(c *schema.Catalog, p api.Plan, x asking) bool {
	s := labels.Plan(c, nil, p)
	name := func(level int) string { return c.Lattice().Levels()[level] }
	cols := strings.Join(numbered(len(s.Cols), func(i int) string { return name(s.Cols[i]) }), " ")
	return name(s.Rows) == x.rows && cols == x.cols && s.Can == (x.raise != "") && (!s.Can || name(s.Raise) == x.raise)
}

// P22.2: by whom plans may be asked, of which Rows, each of Cols and Raise are not seen, alone and together.
func TestMay(t *testing.T) {
	for _, c := range ours() {
		for _, x := range asked() {
			p := planOf(c, x.query)
			checkIs(t, x.query, sheetIs(c, p, x), true)
			for level, people := range ourPeople() {
				want := api.ErrFlow
				if slices.Contains(strings.Fields(x.by), level) {
					want = api.OK
				}
				for _, who := range people {
					checkErr(t, who+": "+x.query, audit.May(c, who, p), want)
				}
			}
		}
	}
}

// P22.2: with one level alone all may be asked.
func TestMayOfOne(t *testing.T) {
	c := catalogOf("levels one; table t rows one (a int one, b text one) hide one when a = 1; principal p one;")
	for _, text := range []string{"select a as x from t", "select a as x from t visible where 7 / a > 1", "select (select b as b from t) as x", "select count(*) as x from t"} {
		checkErr(t, text, audit.May(c, "p", planOf(c, text)), api.OK)
		checkErr(t, text, audit.May(c, "q", planOf(c, text)), api.ErrName)
	}
}

// P22.2: no catalog comes ahead of a name that is none, and that ahead of what may not flow.
func TestMayErrors(t *testing.T) {
	for _, c := range ours() {
		for _, text := range []string{"select i as x from t", "select z as x from t", "select k as x from h where 7 / k > 1"} {
			p := planOf(c, text)
			for _, none := range nones() {
				for _, who := range append(strangers(), "ann", "zoe") {
					checkErr(t, who, audit.May(none, who, p), api.ErrNil)
				}
			}
			for _, who := range strangers() {
				checkErr(t, who, audit.May(c, who, p), api.ErrName)
			}
		}
		checkErr(t, "ann", audit.May(c, "ann", planOf(c, "select z as x from t")), api.ErrFlow)
		checkErr(t, "zoe", audit.May(c, "zoe", planOf(c, "select z as x from t")), api.OK)
	}
	without := catalogOf("levels low; table t rows low (a int low); channel ann low;")
	for _, who := range append(strangers(), "ann", "zoe") {
		checkErr(t, who, audit.May(without, who, planOf(without, "select a as x from t")), api.ErrName)
	}
}

// P22.2: of a plan that can raise nothing Raise counts for nothing; of one that can it counts, whatever Rows and Cols are.
func TestMayRaise(t *testing.T) {
	const text = "table t rows low (a int low, b int high); principal down low; principal up high;"
	for _, c := range two(text) {
		for query, want := range map[string]api.Errno{
			"select 1 as x from (select b as b from t) as q": api.OK, "select 1 as x from (select b + 0 as b from t) as q": api.ErrFlow, "select 1 as x from (select a + 0 as b from t) as q": api.OK,
			"select 1 as x from (select case when b = 1 then 1 else 2 end as b from t) as q": api.OK, "select 1 as x from (select case when b = 1 then 1 / 0 else 2 end as b from t) as q": api.ErrFlow, "select 1 as x from (select case when a = 1 then 1 / 0 else b end as b from t) as q": api.OK,
		} {
			p := planOf(c, query)
			checkErr(t, query, audit.May(c, "down", p), want)
			checkErr(t, query, audit.May(c, "up", p), api.OK)
		}
	}
}
