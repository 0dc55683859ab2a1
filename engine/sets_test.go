package engine_test

import (
	"fmt"
	"strings"
	"testing"

	"cordon/api"
)

// Two that are put together, with rows that are twice in either, and none in one of both.
func TestSets(t *testing.T) {
	const two = "select a as x from t" // 1 2 2 3
	const one = "select a as y from u" // 1 null 2 1 0
	const none = "select a as z from e"
	answers(t,
		two+" union all "+one, "(1) (2) (2) (3) (1) (null) (2) (1) (0)", two+" union "+one, "(1) (2) (3) (null) (0)", two+" except "+one, "(3)", two+" intersect "+one, "(1) (2)",
		one+" union all "+two, "(1) (null) (2) (1) (0) (1) (2) (2) (3)", one+" union "+two, "(1) (null) (2) (0) (3)", one+" except "+two, "(null) (0)", one+" intersect "+two, "(1) (2)",
		two+" union all "+none, "(1) (2) (2) (3)", two+" union "+none, "(1) (2) (3)", two+" except "+none, "(1) (2) (3)", two+" intersect "+none, "none",
		none+" union all "+two, "(1) (2) (2) (3)", none+" union "+two, "(1) (2) (3)", none+" except "+two, "none", none+" intersect "+two, "none",
		two+" union all "+two, "(1) (2) (2) (3) (1) (2) (2) (3)", two+" union "+two, "(1) (2) (3)", two+" except "+two, "none", two+" intersect "+two, "(1) (2) (3)",
		one+" except select null as x", "(1) (2) (0)", one+" intersect select null as x", "(null)", "select null as x union select null as x", "(null)",
		"select a as x, s as y from t union select a as x, s as y from t", "(1 'x') (2 'y') (2 null) (3 'x')", "select a as x, b as y from t except select a as x, b as y from t visible", "(2 true)",
		two+" union all ("+one+" except "+two+")", "(1) (2) (2) (3) (null) (0)", two+" union all "+one+" except "+two, "(null) (0)", two+" except ("+two+" except "+one+")", "(1) (2)",
		"select a as x from t order by x desc intersect "+one, "(2) (1)", one+" intersect select a as x from t order by x desc", "(1) (2)", "select c as x from u order by x desc except select 30 as x", "(40) (20) (10) (null)",
		"select x as x from ("+two+" union "+one+") as q where x > 0 order by x desc", "(3) (2) (1)",
	)
}

// An error in the first, then one in the second, which is done whatever the first comes to.
func TestSetErrors(t *testing.T) {
	zero, over, fine, none := "select 1 / a as x from u", "select :most + a as x from t", "select a as x from t", "select a as x from e"
	for _, mark := range []string{"union all", "union", "except", "intersect"} {
		answers(t,
			zero+" "+mark+" "+over, "ErrZero", over+" "+mark+" "+zero, "ErrOver", zero+" "+mark+" "+fine, "ErrZero", fine+" "+mark+" "+zero, "ErrZero",
			none+" "+mark+" "+zero, "ErrZero", over+" "+mark+" "+none, "ErrOver",
		)
	}
	rows := "select n as x from " + some(401) + " as q"
	answers(t,
		rows+" union all select 1 / (n - 100) as x from h", "ErrZero", rows+" union all select n as x from h", "ErrRows", "select 1 / (n - 100) as x from h union "+rows, "ErrZero",
		"select 1 / x as x from ("+rows+" union all select n as x from h) as q", "ErrRows",
	)
}

// union and union all: MaxResult rows together at the most, however many are the same; except and intersect have no such bound.
func TestMaxTogether(t *testing.T) {
	of := func(n int) string { return "select n as x from " + some(n) + " as q" }
	for _, c := range []struct {
		a, b  int
		above bool
	}{{400, 100, false}, {400, 101, true}, {401, 100, true}, {401, 99, false}, {500, 0, false}, {0, 500, false}, {500, 1, true}, {1, 500, true}, {500, 500, true}, {250, 250, false}, {251, 250, true}} {
		all, once := fmt.Sprintf("(%d)", c.a+c.b), fmt.Sprintf("(%d)", max(c.a, c.b))
		if c.above {
			all, once = "ErrRows", "ErrRows"
		}
		answers(t,
			counted("("+of(c.a)+" union all "+of(c.b)+") as p"), all, counted("("+of(c.a)+" union "+of(c.b)+") as p"), once,
			counted("("+of(c.a)+" except "+of(c.b)+") as p"), fmt.Sprintf("(%d)", max(0, c.a-c.b)), counted("("+of(c.a)+" intersect "+of(c.b)+") as p"), fmt.Sprintf("(%d)", min(c.a, c.b)),
		)
	}
	same := strings.Repeat("select 1 as x from h union ", 5)
	answers(t, same+"select 1 as x", "(1)", "(select 1 as x from h union all select 1 as x from h) union (select 1 as x from h union all (select 1 as x from h union all select 1 as x from h))", "(1)",
		"(select 1 as x from h union all select 1 as x from h) union (select 1 as x from h union all (select 1 as x from h union all (select 1 as x from h union all select 2 as x)))", "ErrRows")
}

// What is put behind a list stays out of all others, which may be cut from the same one.
func TestListsApart(t *testing.T) {
	whole := scan(4)
	head := above(api.PlLimit, whole)
	head.N = 2
	p := pair(api.PlUnionAll, pair(api.PlUnionAll, head, scan(2)), pair(api.PlUnionAll, head, scan(2)))
	check(t, "heads", runs(p), "(1) (2) (5) (1) (2) (5)")
	in := asking(api.ExIn, pair(api.PlUnionAll, head, scan(2)), at(0))
	check(t, "asked", runs(above(api.PlSelect, whole, in)), "(1) (2) (5)")
}
