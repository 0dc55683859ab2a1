package types_test

import (
	"fmt"
	"strings"
	"testing"

	"cordon/api"
)

// queries are texts, and their columns or errors, over our schema.
func queriesAre(t *testing.T, all map[string]string) {
	t.Helper()
	for text, want := range all {
		queryIs(t, text, readQuery(t, text), want)
	}
}

func TestItems(t *testing.T) {
	queriesAre(t, map[string]string{
		"select 1 as x": "x int",
		"select null as x, true as y, 'a' as z, :i as w": "x null, y bool, z text, w int",
		"select 1 as x, 'a' as x":                        "x int, x text",
		"select distinct i1 as x from t limit 3":         "x int",
		"select i1 as x, 1 + 'a' as y from t":            "ErrType",
		"select nosuch as x, 1 + 'a' as y from t":        "ErrName",
		"select 1 + 'a' as y, nosuch as x from t":        "ErrType",
		"select 1 as x, x as y":                          "ErrName",
	})
	for n, want := range map[int]string{api.MaxCols: "", api.MaxCols + 1: "ErrMany", 3 * api.MaxCols: "ErrMany"} {
		q := sel(numbered(n, func(int) api.Expr { return col("i1") })...)
		q.From = one(table("t", "t"))
		if want == "" {
			want = strings.Join(numbered(n, func(i int) string { return q.Items[i].Name + " int" }), ", ")
		}
		queryIs(t, fmt.Sprint(n, " items"), q, want)
		q.Items[0].E = col("nosuch")
		if n > api.MaxCols {
			queryIs(t, fmt.Sprint(n, " items, one of them wrong"), q, "ErrMany")
		}
		q.Group = one(col("nosuch"))
		queryIs(t, fmt.Sprint(n, " items, and Group wrong"), q, "ErrName")
	}
}

func TestTables(t *testing.T) {
	queriesAre(t, map[string]string{
		"select i1 as x from t":                                                     "x int",
		"select t.i1 as x, t.b1 as y, s1 as z from t":                               "x int, y bool, z text",
		"select i1 as x from t visible":                                             "x int",
		"select u.s1 as x, i1 as y from t as u":                                     "x text, y int",
		"select t.s1 as x from t as u":                                              "ErrName",
		"select u.i1 as x from t":                                                   "ErrName",
		"select i1 as x":                                                            "ErrName",
		"select t.i1 as x":                                                          "ErrName",
		"select 1 as x from nosuch":                                                 "ErrName",
		"select 1 as x from T":                                                      "ErrName",
		"select 1 as x from nosuch as t":                                            "ErrName",
		"select 1 as x from out":                                                    "ErrName",
		"select i100 as x, i139 as y from wide":                                     "x int, y int",
		"select i140 as x from wide":                                                "ErrName",
		"select x as y from (select s1 as x, i1 as z from t) as q":                  "y text",
		"select q.x as y from (select s1 as x from t) as q":                         "y text",
		"select t.x as y from (select s1 as x from t) as q":                         "ErrName",
		"select s1 as y from (select s1 as x from t) as q":                          "ErrName",
		"select x as y from (select s1 as x, i1 as x from t) as q":                  "ErrName",
		"select 1 as y from (select s1 as x, i1 as x from t) as q":                  "y int",
		"select x as y from (select null as x) as q":                                "y null",
		"select x + 1 as y from (select null as x) as q":                            "y int",
		"select x as y from (select 's' as x union select null as z) as q":          "y text",
		"select z as y from (select 's' as x union select null as z) as q":          "ErrName",
		"select y as z from (select x as y from (select i1 as x from u) as p) as q": "z int",
		"select x as z from (select x as y from (select i1 as x from u) as p) as q": "ErrName",
		"select 1 as y from (select nosuch as x from t) as q":                       "ErrName",
		"select 1 as y from (select sum(s1) as x from t) as q":                      "ErrType",
		"select 1 as y from (select s1 as x, count(*) as n from t) as q":            "ErrShape",
		"select n as y from (select count(*) as n from t) as q":                     "y int",
	})
}

func TestJoins(t *testing.T) {
	queriesAre(t, map[string]string{
		"select t.i1 as x, u.i1 as y, s1 as z, s2 as w from t join u on t.i1 = u.i1":     "x int, y int, z text, w text",
		"select t.i1 as x, u.i1 as y from t left join u on t.i1 = u.i1":                  "x int, y int",
		"select i1 as x from t join u on true":                                           "ErrName",
		"select i1 as x from t join v on true":                                           "x int",
		"select 1 as x from t join u on i1 = 1":                                          "ErrName",
		"select 1 as x from t join u on null":                                            "x int",
		"select 1 as x from t join u on :b":                                              "x int",
		"select 1 as x from t join u on b1":                                              "x int",
		"select 1 as x from t join u on 1":                                               "ErrType",
		"select 1 as x from t left join u on s2":                                         "ErrType",
		"select 1 as x from t join u on nosuch":                                          "ErrName",
		"select 1 as x from t join u on count(*) > 1":                                    "ErrShape",
		"select count(*) as x from t join u on count(*) > 1":                             "ErrShape",
		"select 1 as x from t join u on exists (select count(*) as n from t)":            "x int",
		"select 1 as x from t join u on v.b2 join v on true":                             "ErrName",
		"select 1 as x from t join u on true left join v on t.b1 and b2":                 "x int",
		"select t.i1 as x, i2 as y from t join u on true left join v on t.b1 and b2":     "x int, y int",
		"select 1 as x from t join t on true":                                            "ErrName",
		"select 1 as x from t join t as o on t.i1 = o.i1":                                "x int",
		"select 1 as x from t as o join u as o on true":                                  "ErrName",
		"select 1 as x from t as u join u on true":                                       "ErrName",
		"select 1 as x from t as u join u as t on t.i1 = u.i1 and b1":                    "x int",
		"select 1 as x from t join u on true join t on true":                             "ErrName",
		"select 1 as x from t join u on true join v as u on true":                        "ErrName",
		"select 1 as x from t join (select 1 as x) as t on true":                         "ErrName",
		"select x as y from t join (select 1 as x) as q on i1 = x":                       "y int",
		"select q.i1 as y from t join (select i1 as i1 from t) as q on q.i1 = t.i1":      "y int",
		"select 1 as x from (select 1 as x) as q left join (select 2 as x) as q on true": "ErrName",
		"select 1 as x from nosuch join u on 1":                                          "ErrName",
		"select 1 as x from u join nosuch on 1":                                          "ErrName",
		"select 1 as x from (select -'x' as x) as q join nosuch on true":                 "ErrType",
		"select 1 as x from nosuch join (select -'x' as x) as q on true":                 "ErrName",
		"select 1 as x from t join u on 1 join nosuch on true":                           "ErrType",
	})
}

// Together no more than MaxCols; one name twice is told ahead of that, On behind it.
func TestWideJoins(t *testing.T) {
	queriesAre(t, map[string]string{
		"select i100 as x from most join (select 1 as y) as q on y = i138":                                 "x int",
		"select y as x from wide join (select 1 as y) as q on true":                                        "ErrMany",
		"select y as x from wide left join (select 1 as y) as q on 1":                                      "ErrMany",
		"select y as x from (select 1 as y) as q join wide on nosuch":                                      "ErrMany",
		"select i100 as x from most join u on true":                                                        "ErrMany",
		"select half.i100 as x, h.i119 as y from half join half as h on half.i100 = h.i100":                "x int, y int",
		"select half.i100 as x from half join half as h on true join (select 1 as y) as q on true":         "ErrMany",
		"select half.i100 as x from half join half as h on 1 join (select 1 as y) as q on true":            "ErrType",
		"select 1 as x from wide join wide on true":                                                        "ErrName",
		"select 1 as x from wide join wide as w on nosuch":                                                 "ErrMany",
		"select 1 as x from wide join (select i100 as i from wide) as q on true":                           "ErrMany",
		"select z as x from (select 1 as z from wide) as a join (select 1 as y from wide) as q on y = z":   "x int",
		"select 1 as x from half join most on true join half on true":                                      "ErrMany",
		"select 1 as x from most join v on true union select 1 as x":                                       "ErrMany",
		"select 1 as x where exists (select 1 as x from most join v on true)":                              "ErrMany",
		"select 1 as x from (select 1 as y from wide join v on true) as q":                                 "ErrMany",
		"select 1 as x from half as a join half as b on a.i100 = b.i100 and exists (select 1 as x from t)": "x int",
	})
}

func TestWhere(t *testing.T) {
	queriesAre(t, map[string]string{
		"select i1 as x from t where b1":                                     "x int",
		"select i1 as x from t where null":                                   "x int",
		"select i1 as x from t where i1 > 1 and s1 is null":                  "x int",
		"select i1 as x from t where i1":                                     "ErrType",
		"select i1 as x from t where 's'":                                    "ErrType",
		"select i1 as x from t where nosuch":                                 "ErrName",
		"select i1 as x from t where x = 1":                                  "ErrName",
		"select i1 as x from t where count(*) > 1":                           "ErrShape",
		"select count(*) as x from t where count(*) > 1":                     "ErrShape",
		"select i1 as x from t where max(b1) group by i1":                    "ErrShape",
		"select 1 as x where true":                                           "x int",
		"select 1 as x where i1 = 1":                                         "ErrName",
		"select i1 as x from t where i1 in (select max(i1) as m from u)":     "x int",
		"select i1 as x from t where exists (select 1 as y from u where i1)": "ErrType",
		"select s1 as x from t where b1 group by s1":                         "x text",
		"select s1 as x from t where i1 = 1 group by s1 having s1 = 'x'":     "x text",
	})
}

func TestGroup(t *testing.T) {
	queriesAre(t, map[string]string{
		"select i1 as x from t group by i1":                                 "x int",
		"select t.i1 as x from t group by i1":                               "x int",
		"select i1 as x from t group by t.i1":                               "x int",
		"select i1 + 1 as x, -t.i1 as y from t group by t.i1":               "x int, y int",
		"select 1 as x, :i as y from t group by i1":                         "x int, y int",
		"select s1 as x, i1 as y from t group by i1, s1":                    "x text, y int",
		"select i1 as x from t group by i1, t.i1, i1":                       "x int",
		"select s1 as x from t group by i1":                                 "ErrShape",
		"select i1 as x, s1 as y from t group by i1":                        "ErrShape",
		"select nosuch as x from t group by i1":                             "ErrName",
		"select u.s1 as x from t group by i1":                               "ErrName",
		"select i1 + s1 as x from t group by i1":                            "ErrShape",
		"select nosuch + s1 as x from t group by i1":                        "ErrName",
		"select s1 + nosuch as x from t group by i1":                        "ErrShape",
		"select t.i1 as x from t join u on true group by t.i1":              "x int",
		"select u.i1 as x from t join u on true group by t.i1":              "ErrShape",
		"select i1 as x from t join u on true group by t.i1":                "ErrName",
		"select s1 as x from t join u on true group by s1":                  "x text",
		"select t.i1 as x from t join u on true group by i1":                "ErrName",
		"select 1 as x from t group by 1":                                   "ErrShape",
		"select 1 as x from t group by null":                                "ErrShape",
		"select 1 as x from t group by :i":                                  "ErrShape",
		"select 1 as x from t group by i1 + 1":                              "ErrShape",
		"select 1 as x from t group by -nosuch":                             "ErrShape",
		"select 1 as x from t group by count(*)":                            "ErrShape",
		"select 1 as x from t group by max(nosuch)":                         "ErrShape",
		"select 1 as x from t group by (select i1 as x from t)":             "ErrShape",
		"select 1 as x from t group by nosuch":                              "ErrName",
		"select 1 as x from t group by x":                                   "ErrName",
		"select 1 as x from t group by u.i1":                                "ErrName",
		"select 1 as x from t group by i1, nosuch, 1":                       "ErrName",
		"select 1 as x from t group by i1, 1, nosuch":                       "ErrShape",
		"select 1 as x group by i1":                                         "ErrName",
		"select x as y from (select null as x, 1 as z) as q group by x":     "y null",
		"select z as y from (select null as x, 1 as z) as q group by q.x":   "ErrShape",
		"select i1 as x from t group by i1 having b1":                       "ErrShape",
		"select i1 as x from t group by i1 having max(b1)":                  "x int",
		"select b1 as x from t group by b1 having t.b1":                     "x bool",
		"select i1 as x from t group by i1 having i1":                       "ErrType",
		"select i1 as x from t group by i1 having null":                     "x int",
		"select i1 as x from t group by i1 having count(*) > 1":             "x int",
		"select i1 as x from t group by i1 having count(*)":                 "ErrType",
		"select i1 as x from t group by i1 having x = 1":                    "ErrName",
		"select i1 as x from t group by i1 having sum(count(*)) > 1":        "ErrShape",
		"select s1 as x from t group by i1 having nosuch":                   "ErrShape",
		"select 1 + 'a' as x from t group by i1 having b1":                  "ErrType",
		"select (select i1 as x from t) as x from u group by s2":            "x int",
		"select (select i1 as x from u group by s2) as x from t":            "ErrShape",
		"select i1 in (select s2 as y from u) as x from t group by i1":      "ErrType",
		"select s1 in (select s2 as y from u) as x from t group by i1":      "ErrShape",
		"select case when b1 then 1 else 2 end as x from t group by b1":     "x int",
		"select case when b1 then i1 else null end as x from t group by b1": "ErrShape",
	})
}

// Where an ExAgg may stand, and where not.
func TestAggs(t *testing.T) {
	queriesAre(t, map[string]string{
		"select count(*) as x from t":       "x int",
		"select count(*) as x":              "x int",
		"select sum(1) as x, max('a') as y": "x int, y text",
		"select count(s1) as x, sum(i1) as y, min(b1) as z, max(s1) as w from t": "x int, y int, z bool, w text",
		"select count(nosuch) as x from t":                                       "ErrName",
		"select max(u.i1) as x from t":                                           "ErrName",
		"select sum(null) as x, min(null) as y from t":                           "x int, y null",
		"select sum(s1) as x from t":                                             "ErrType",
		"select sum(b1) as x from t":                                             "ErrType",
		"select count(1 + 'a') as x from t":                                      "ErrType",
		"select -count(*) as x, max(i1) * 2 as y from t":                         "x int, y int",
		"select not count(*) as x from t":                                        "ErrType",
		"select case when count(*) > 1 then max(s1) else null end as x from t":   "x text",
		"select count(*) in (select i1 as x from t) as x from u":                 "x bool",
		"select max(i1) is null as x from u":                                     "x bool",
		"select i1 as x, count(*) as n from t":                                   "ErrShape",
		"select count(*) as n, i1 as x from t":                                   "ErrShape",
		"select i1 + count(*) as x from t":                                       "ErrShape",
		"select nosuch as x, count(*) as n from t":                               "ErrName",
		"select i1 as x, count(nosuch) as n from t":                              "ErrShape",
		"select i1 as x, count(*) as n from t group by i1":                       "x int, n int",
		"select i1 as x, sum(i1 + 1) as y, max(s1) as z from t group by i1":      "x int, y int, z text",
		"select max(t.s1) as x from t join u on true group by u.i1":              "x text",
		"select max(i1) as x from t join u on true group by u.i1":                "ErrName",
		"select sum(count(*)) as x from t":                                       "ErrShape",
		"select count(count(*)) as x from t":                                     "ErrShape",
		"select count(sum(i1)) as x from t group by i1":                          "ErrShape",
		"select sum(i1 + max(i1)) as x from t":                                   "ErrShape",
		"select sum(nosuch + max(i1)) as x from t":                               "ErrName",
		"select sum(max(i1) + nosuch) as x from t":                               "ErrShape",
		"select sum(max(nosuch)) as x from t":                                    "ErrShape",
		"select sum(-'x' + max(i1)) as x from t":                                 "ErrType",
		"select sum('x' + max(i1)) as x from t":                                  "ErrShape",
		"select max(i1) + sum(s1) as x from t":                                   "ErrType",
		"select i1 as x, (select count(*) as n from u) as y from t":              "x int, y int",
		"select (select i1 as x from t) as x, count(*) as n from u":              "x int, n int",
		"select i1 as x from t where i1 = (select max(i1) as m from u)":          "x int",
		"select sum((select count(*) as n from u)) as x from t":                  "x int",
		"select max((select max(s2) as n from u)) as x, i1 as y from t":          "ErrShape",
		"select sum((select i1 as n from u where count(*) > 1)) as x from t":     "ErrShape",
		"select (select count(*) as n from u where count(*) > 1) as x from t":    "ErrShape",
		"select (select i1 as y, count(*) as n from u) as x from t":              "ErrShape",
		"select (select sum(t.i1) as n from u) as x from t":                      "ErrName",
		"select count(*) as x from t union select i1 as x from t":                "x int",
		"select count(*) as x from (select i1 as y, b1 as z from t) as q":        "x int",
	})
}

func TestOrder(t *testing.T) {
	queriesAre(t, map[string]string{
		"select i1 as x from t order by x":                                    "x int",
		"select i1 as x, s1 as y from t order by y desc, x + 1":               "x int, y text",
		"select i1 as x from t order by 1, null, :s, x is null":               "x int",
		"select i1 as x from t order by i1":                                   "ErrName",
		"select i1 as i1 from t order by i1":                                  "i1 int",
		"select i1 as i1 from t order by t.i1":                                "ErrName",
		"select i1 as x from t order by t.x":                                  "ErrName",
		"select i1 as x from t order by x.x":                                  "ErrName",
		"select i1 as x, s1 as x from t order by x":                           "ErrName",
		"select i1 as x, s1 as x from t order by 1":                           "x int, x text",
		"select i1 as x from t order by x, nosuch":                            "ErrName",
		"select i1 as x from t order by x || 'a'":                             "ErrType",
		"select i1 as x from t order by x || 'a', nosuch":                     "ErrType",
		"select i1 as x from t order by nosuch, x || 'a'":                     "ErrName",
		"select i1 as x from t order by count(*)":                             "ErrShape",
		"select i1 as x from t order by max(x)":                               "ErrShape",
		"select count(*) as x from t order by count(*)":                       "ErrShape",
		"select i1 as x from t group by i1 order by max(nosuch)":              "ErrShape",
		"select i1 as x, count(*) as n from t group by i1 order by n desc, x": "x int, n int",
		"select max(s1) as x from t group by i1 order by i1":                  "ErrName",
		"select i1 as x from t order by (select max(s2) as m from u)":         "x int",
		"select i1 as x from t order by (select 1 as y, 2 as z)":              "ErrShape",
		"select i1 as x from t order by x in (select s2 as m from u)":         "ErrType",
		"select i1 as x from t order by exists (select x as y)":               "ErrName",
		"select 1 + 'a' as x order by nosuch":                                 "ErrType",
	})
}

// The kinds that put two queries together.
func TestTogether(t *testing.T) {
	for _, word := range []string{"union", "union all", "except", "intersect"} {
		for text, want := range map[string]string{
			"select 1 as a ? select 2 as b":                                    "a int",
			"select 1 as a, 's' as b ? select 2 as c, 't' as d":                "a int, b text",
			"select null as a ? select 2 as b":                                 "a int",
			"select 's' as a ? select null as b":                               "a text",
			"select null as a ? select null as b":                              "a null",
			"select null as a, true as b ? select 's' as b, null as a":         "a text, b bool",
			"select 1 as a ? select 's' as a":                                  "ErrType",
			"select true as a ? select 1 as a":                                 "ErrType",
			"select 1 as a, true as b ? select 1 as a, 's' as b":               "ErrType",
			"select 1 as a ? select 1 as a, 2 as b":                            "ErrType",
			"select 1 as a, 2 as b ? select 1 as a":                            "ErrType",
			"select 1 as a, 2 as b ? select 's' as a":                          "ErrType",
			"select nosuch as a ? select 1 + 's' as a":                         "ErrName",
			"select 1 + 's' as a ? select nosuch as a":                         "ErrType",
			"select 1 as a ? select nosuch as a, 1 as b":                       "ErrName",
			"select 1 as a ? select count(*) as n, i1 as b from t":             "ErrShape",
			"select i1 as a from t ? select count(*) as n from u":              "a int",
			"select null as a ? select null as b ? select 's' as c":            "a text",
			"select 1 as a ? select null as b ? select 's' as c":               "ErrType",
			"select 1 as a ? (select null as b ? select 2 as c)":               "a int",
			"select 1 as a ? (select null as b ? select 's' as c)":             "ErrType",
			"select 1 as a ? (select 2 as b ? select nosuch as c)":             "ErrName",
			"select i1 as a from t order by a limit 1 ? select 2 as b limit 0": "a int",
			"select i1 as a from t ? select i1 as b from u order by a":         "ErrName",
			"select i1 as a from t ? select i1 as b from u order by b":         "a int",
			"select a as z from (select null as a ? select 2 as b) as q":       "z int",
			"select q.b as z from (select null as a ? select 2 as b) as q":     "ErrName",
			"select 1 as a where 1 in (select null as a ? select 2 as b)":      "a int",
			"select 1 as a where 's' in (select null as a ? select 2 as b)":    "ErrType",
		} {
			text = strings.ReplaceAll(text, "?", word)
			queryIs(t, text, readQuery(t, text), want)
		}
	}
	for _, kind := range []int{api.QuUnion, api.QuUnionAll, api.QuExcept, api.QuIntersect} {
		for a, x := range constants() {
			for b, y := range constants() {
				want := wantOf("case", api.TyNull, a, b)
				if want != "ErrType" {
					want = "x int, x1 " + want
				}
				queryIs(t, fmt.Sprint(kind, a, b), put(kind, sel(num(1), x), sel(null(), y)), want)
			}
		}
		wide := sel(numbered(api.MaxCols+1, func(int) api.Expr { return null() })...)
		queryIs(t, "wide first", put(kind, wide, sel(col("nosuch"))), "ErrMany")
		queryIs(t, "wide second", put(kind, sel(num(1)), wide), "ErrMany")
		queryIs(t, "wide behind a wrong one", put(kind, sel(col("nosuch")), wide), "ErrName")
	}
}
