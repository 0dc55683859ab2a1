package engine_test

import (
	"fmt"
	"strings"
	"testing"

	"cordon/api"
)

// Join: for each row of the first, in order, each of the second one of which On is true.
func TestJoin(t *testing.T) {
	answers(t,
		"select t.a as x, u.c as y from t join u on t.a = u.a", "(1 10) (1 30) (2 null) (2 null)",
		"select u.c as y, t.s as x from u join t on t.a = u.a", "(10 'x') (null 'y') (null null) (30 'x')",
		"select t.a as x, u.c as y from t join u on t.a > 2", "(3 10) (3 20) (3 null) (3 30) (3 40)",
		"select t.a as x, u.c as y from t join u on u.a is null", "(1 20) (2 20) (2 20) (3 20)",
		"select t.a as x from t join u on false", "none", "select t.a as x from t join u on null", "none", "select t.a as x from t join one on true", "(1) (2) (2) (3)",
		"select t.a as x from t join e on true", "none", "select t.a as x from e join t on true", "none", "select e.a as x from e join e as o on true", "none",
		"select t.a as x, o.x as y from t visible join one as o on t.a < o.x and t.s is not null", "(1 5) (3 5)",
		"select p.a as x, q.a as y from t as p join t as q on p.a < q.a", "(1 2) (1 2) (1 3) (2 3) (2 3)",
		"select t.a as x, u.c as y, o.x as z from t join u on t.a = u.a join one as o on u.c > o.x", "(1 10 5) (1 30 5)",
		"select q.m as x, u.c as y from (select a + 1 as m from t) as q join u on q.m = u.a", "(2 null)",
		"select q.n as x, u.c as y from u join (select count(*) as n, max(a) as m from t) as q on u.a < q.m", "(4 10) (4 null) (4 30) (4 40)",
	)
}

// Left: a row of the first of which none is true, with nulls behind it, in its place.
func TestLeft(t *testing.T) {
	answers(t,
		"select t.a as x, u.a as y, u.c as z from t left join u on t.a = u.a", "(1 1 10) (1 1 30) (2 2 null) (2 2 null) (3 null null)",
		"select u.c as x, t.a as y, t.b as z, t.s as s from u left join t on t.a = u.a", "(10 1 false 'x') (20 null null null) (null 2 true 'y') (null 2 null null) (30 1 false 'x') (40 null null null)",
		"select t.a as x, u.c as y from t left join u on false", "(1 null) (2 null) (2 null) (3 null)", "select t.a as x, u.c as y from t left join u on null", "(1 null) (2 null) (2 null) (3 null)",
		"select t.a as x, o.x as y from t left join one as o on true", "(1 5) (2 5) (2 5) (3 5)",
		"select t.a as x, e.a as y, e.s as z from t left join e on true", "(1 null null) (2 null null) (2 null null) (3 null null)",
		"select t.a as x, e.a as y from e left join t on true", "none", "select e.a as x from e left join e as o on true", "none",
		"select t.a as x, u.c as y, o.x as z from t left join u on t.a = u.a left join one as o on u.c > o.x", "(1 10 5) (1 30 5) (2 null null) (2 null null) (3 null null)",
		"select t.a as x, q.n as y, q.m as z from t left join (select a as n, a + c as m, c as l from u) as q on q.n = t.a and q.l > 10", "(1 1 31) (2 null null) (2 null null) (3 null null)",
		"select t.a as x, e.a as y, o.x as z from t left join e on true join one as o on e.a is null", "(1 null 5) (2 null 5) (2 null 5) (3 null 5)",
	)
}

// An error of On at any pair; those of the first kid, then of the second one, ahead of it.
func TestJoinErrors(t *testing.T) {
	for _, kind := range []string{"join", "left join"} {
		for text, want := range map[string]string{
			"t KIND u on 1 / u.a = 1": "ErrZero",
			"u KIND t on 1 / u.a = 1": "ErrZero",
			"t KIND u on case when t.a = 3 and u.a = 0 then 1 / 0 = 1 else true end": "ErrZero",
			"e KIND u on 1 / u.a = 1":                                                                                  "none",
			"(select 1 / a as x from u) as q KIND t on :most + 1 = 1":                                                  "ErrZero",
			"t KIND (select 1 / a as x from u) as q on :most + 1 = 1":                                                  "ErrZero",
			"(select :most + a as x from t) as p KIND (select 1 / a as x from u) as q on true":                         "ErrOver",
			"(select 1 / a as x from u) as p KIND (select :most + a as x from t) as q on true":                         "ErrZero",
			"e KIND (select 1 / a as x from u) as q on true":                                                           "ErrZero",
			"(select 1 / a as x from u) as q KIND e on true":                                                           "ErrZero",
			"(select 1 / a as x from u where a > 0) as q KIND (select a as y from t where :most + a = 0) as r on true": "ErrOver",
		} {
			answers(t, "select 1 as x from "+strings.Replace(text, "KIND", kind, 1), want)
		}
	}
	answers(t, "select 1 as x from t join e on 1 / 0 = 1", "none", "select 1 as x from t left join e on 1 / 0 = 1", "(1) (1) (1) (1)")
}

// some are queries of n rows, from 1 on, of our full tables.
func some(n int) string {
	var out []string
	for i := 0; n > 0 || i == 0; i++ {
		out = append(out, fmt.Sprintf("select n + %d as n from %s where n <= %d", 100*i, []string{"h", "g", "f"}[i%3], n))
		n -= 100
	}
	return "(" + strings.Join(out, " union all ") + ")"
}

func counted(from string) string { return "select count(*) as n from " + from }

// The product of how many rows both have is MaxPairs at the most.
func TestMaxPairs(t *testing.T) {
	answers(t, counted(some(500)+" as p"), "(500)")
	for _, kind := range []string{"join", "left join"} {
		for _, c := range []struct {
			a, b int
			want string
		}{
			{200, 100, ""}, {201, 100, "ErrRows"}, {100, 200, ""}, {100, 201, "ErrRows"}, {500, 40, ""}, {500, 41, "ErrRows"}, {40, 500, ""}, {41, 500, "ErrRows"},
			{177, 112, ""}, {177, 113, "ErrRows"}, {113, 177, "ErrRows"}, {142, 140, ""}, {142, 141, "ErrRows"}, {500, 500, "ErrRows"}, {500, 0, ""}, {0, 500, ""}, {500, 1, ""},
		} {
			want, none := c.want, c.want
			if want == "" {
				want, none = fmt.Sprintf("(%d)", min(c.a, c.b)), "(0)"
				if kind == "left join" {
					want, none = fmt.Sprintf("(%d)", c.a), fmt.Sprintf("(%d)", c.a)
				}
			}
			from := some(c.a) + " as p " + kind + " " + some(c.b) + " as q on "
			answers(t, counted(from+"p.n = q.n"), want, counted(from+"false"), none)
		}
		// Too many pairs come ahead of On's errors, and behind those of both kids.
		many := some(201) + " as p " + kind + " h on "
		answers(t, counted(many+"1 / 0 = 1"), "ErrRows", counted("(select 1 / 0 as z, n as n from "+some(201)+" as r) as p "+kind+" h on true"), "ErrZero",
			counted(some(201)+" as p "+kind+" (select 1 / 0 as z from h) as q on true"), "ErrZero")
	}
}

// A join comes to MaxResult rows at the most; an error of On at a pair behind them comes first.
func TestMaxResult(t *testing.T) {
	five := "(select n as n from g where n <= 5) as q"
	six := "(select n as n from g where n <= 6) as q"
	for _, kind := range []string{"join", "left join"} {
		h := "h " + kind + " "
		answers(t,
			counted(h+five+" on true"), "(500)", counted(h+six+" on true"), "ErrRows", counted(h+six+" on q.n < 6 or h.n = 1"), "ErrRows", counted(h+six+" on q.n < 6"), "(500)",
			counted(h+six+" on 1 / (h.n - 100) < 5"), "ErrZero", counted(h+six+" on case when h.n = 100 and q.n = 6 then 1 / 0 = 1 else true end"), "ErrZero",
			counted(h+"g on g.n <= 5"), "(500)", counted(h+"g on g.n <= 5 or h.n = 7 and g.n = 6"), "ErrRows",
			counted(h+"g on 1 / (200 - h.n - g.n) < 5"), "ErrZero",
			"select h.n as x from "+h+six+" on true limit 1", "ErrRows", "select 1 as x where exists (select h.n as x from "+h+six+" on true)", "ErrRows",
		)
	}
	// Rows with nulls count, too.
	answers(t,
		counted(some(500)+" as p left join one on false"), "(500)", counted("h left join g on h.n <= 99 and g.n <= 5 or h.n = 1 and g.n <= 9"), "(500)",
		counted("h left join g on h.n <= 99 and g.n <= 5 or h.n = 1 and g.n <= 10"), "ErrRows",
		counted("h join g on h.n <= 99 and g.n <= 5 or h.n = 1 and g.n <= 10"), "(500)",
	)
}

// As many nulls as the second kid has columns, also if it is a join, or two together.
func TestNullsOfAll(t *testing.T) {
	wide := make([]string, 39)
	for i := range wide {
		wide[i] = fmt.Sprintf("a as c%d", i)
	}
	p := planOf(t, ourCatalog(), "select one.x as x, q.c38 as y from one left join (select "+strings.Join(wide, ", ")+" from e) as q on true")
	check(t, "39 columns", runs(p), "(5 null)")
	check(t, "39 columns", runs(p.Kids[0]), "(5"+strings.Repeat(" null", 39)+")")
	p = pair(api.PlLeft, scan(2), pair(api.PlJoin, scan(1), scan(0), constant(true)), constant(false))
	check(t, "a join", runs(p), "(5 null null null null null)")
	answers(t, "select q.x as x, q.y as y, one.x as z from one left join (select a as x, s as y from e union select 1 as x, 'b' as y) as q on q.x > 1", "(null null 5)")
}
