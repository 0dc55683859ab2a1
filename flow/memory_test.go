package flow_test

import (
	"fmt"
	"reflect"
	"testing"

	"cordon/api"
	"cordon/flow"
	"cordon/schema"
)

// standsAlone asks for a verdict, twice, and looks at what is changed, kept and shared.
func standsAlone(t *testing.T, c *schema.Catalog, p api.Program) api.Verdict {
	t.Helper()
	p = roomy(p)
	was, tables, channels := copied(p), c.Tables(), c.Channels()
	first := flow.Check(c, p)
	told, second := copied(first), flow.Check(c, p)
	if !ownMemory(first, second, p) || !ownMemory(second, first, p) {
		t.Error("memory is shared")
	}
	spoil(&first)
	spoil(&second)
	if !same(p, was) || !hasRoom(p) || !reflect.DeepEqual(c.Tables(), tables) || !reflect.DeepEqual(c.Channels(), channels) {
		t.Error("what was handed in is changed")
	}
	flow.Check(nil, p)
	flow.Check(c, api.Program{})
	if third := flow.Check(c, emptied(was)); !same(third, told) {
		t.Errorf("%+v, and then %+v", told, third)
	}
	third := flow.Check(c, p)
	spoil(&p)
	if !same(third, told) {
		t.Errorf("%+v, when the program is another one %+v", told, third)
	}
	return told
}

// planStandsAlone does the same with which columns of a plan may be null.
func planStandsAlone(t *testing.T, c *schema.Catalog, p api.Plan) []bool {
	t.Helper()
	p = roomy(p)
	was, tables := copied(p), c.Tables()
	first, second := flow.Nulls(c, p), flow.Nulls(c, p)
	told := copied(first)
	if !ownMemory(first, second, p) || !ownMemory(second, first, p) {
		t.Error("memory is shared")
	}
	for _, l := range [][]bool{first, second} {
		for i := range l[:cap(l)] {
			l[:cap(l)][i] = !l[:cap(l)][i]
		}
	}
	if !same(p, was) || !hasRoom(p) || !reflect.DeepEqual(c.Tables(), tables) {
		t.Error("what was handed in is changed")
	}
	check(t, "columns again", fmt.Sprint(flow.Nulls(c, emptied(was))), fmt.Sprint(told))
	return told
}

// Rules 3, 5 and 6, P2, of each kind of statement.
func TestStandAlone(t *testing.T) {
	for _, c := range benchOf("table n rows low (x int low, y int null a) key (x) hide b when x = 1;") {
		standsAlone(t, c, api.Program{})
		for _, stmt := range []string{
			"", "set l = -:va;", "if :va > 0 { print out 1; } else { input l; }", "while :va > 0 { print out 1; raise; }", "for l in select -ia as x from t where pb { begin; }", "try { print out -:vb; } catch { commit; rollback; skip; }",
			"insert into n values (:va, 1);", "insert into n select ia as x, ib as y from t;", "update n set y = -1 where y > 0;", "delete from n where -y > 0;", "call p(:va); call q();",
		} {
			standsAlone(t, c, programOf(t, c, withPreamble("var x int; proc p(n int) { var m int; set m = :n; call q(); } proc q() { call p(1); } | "+stmt+" set x = 1;")))
		}
		for _, text := range []string{"select i as x, :v as y from t", "select n.y as x, m.y as y from n left join n as m on true", "select n.y as x, m.x as y from n join n as m on true order by x limit 3", "select distinct x as x from n union all select y as x from n", "select x as x from n union select y as x from n", "select x as x from n except select y as x from n", "select x as x, count(*) as y from n group by x", "select 1 in (select y as x from n) as z"} {
			for p := planOf(t, c, text); ; p = p.Kids[0] {
				planStandsAlone(t, c, p)
				if len(p.Kids) == 0 {
					break
				}
			}
		}
		for _, kind := range []int{api.PlJoin, api.PlLeft, api.PlUnion, api.PlUnionAll, api.PlExcept, api.PlIntersect} { // the same kid twice
			kid := scan(1)
			p := pair(kind, kid, kid, yes())
			planStandsAlone(t, c, p)
			planStandsAlone(t, c, pair(kind, p, p, yes()))
			planStandsAlone(t, c, above(api.PlLimit, p))
		}
	}
}

// The same, of scripts made over schemas of any kind.
func TestMadeStandAlone(t *testing.T) {
	madeIn(t, 180000, 1200, func(m *maker, x made) {
		standsAlone(t, m.c, x.p)
		plansOf(x.s.Body, x.p.Procs[len(x.p.Procs)-1].Body, func(q api.Query, p api.Plan) { planStandsAlone(t, m.c, p) })
	})
}
