package engine_test

import (
	"cmp"
	"fmt"
	"testing"

	"cordon/api"
	"cordon/engine"
	"cordon/store"
)

// P13.1, without a store.
func TestNoStore(t *testing.T) {
	for _, d := range []*store.DB{nil, {}} {
		for _, n := range []api.Node{{}, constant(1), at(0), nodeOf(t, "1 / 0"), nodeOf(t, "exists (select a as x from t)"), {Kind: 99}} {
			check(t, "a node", valueAnswer(engine.Value(d, ourBound(), ourRow(), n)), "ErrNil")
			check(t, "a node", valueAnswer(engine.Value(d, nil, nil, n)), "ErrNil")
		}
		for _, p := range []api.Plan{{}, {Kind: api.PlOne}, scan(0), planOf(t, ourCatalog(), "select 1 / 0 as x"), {Kind: 99}} {
			check(t, "a plan", rowsAnswer(engine.Rows(d, ourBound(), p)), "ErrNil")
			check(t, "a plan", rowsAnswer(engine.Rows(d, nil, p)), "ErrNil")
		}
	}
}

// P13.1: constants, columns, variables. Of two variables with one name it is the first; of none, or without a value, null.
func TestLeaves(t *testing.T) {
	values(t, "null", "null", "true", "true", "false", "false", "0", "0", "999999999999999999", "999999999999999999", "''", "''", "'it''s'", "'it's'",
		"a", "3", "b", "false", "s", "'c'", "m", "null",
		":i", "7", ":b", "true", ":s", "'v'", ":n", "null", ":none", "null", ":unbound", "null", ":most", "9223372036854775807")
	n := nodeOf(t, ":i")
	for _, c := range []struct {
		vars []api.Bound
		want string
	}{
		{nil, "null"}, {one(api.Bound{Name: "j", Value: val(1)}), "null"}, {one(api.Bound{Name: "", Value: val(1)}), "null"},
		{one(api.Bound{Name: "i"}, api.Bound{Name: "i", Value: val(2)}), "null"},
		{one(api.Bound{Name: "j", Value: val(1)}, api.Bound{Name: "i", Value: val(2)}, api.Bound{Name: "i", Value: val(3)}), "2"},
	} {
		check(t, c.vars, valueAnswer(engine.Value(ours(), c.vars, nil, n)), c.want)
		p := api.Plan{Kind: api.PlProject, Kids: one(api.Plan{Kind: api.PlOne}), E: one(n), Width: 1}
		check(t, c.vars, rowsAnswer(engine.Rows(ours(), c.vars, p)), "("+c.want+")")
		check(t, c.vars, valueAnswer(engine.Value(ours(), c.vars, nil, asking(api.ExScalar, p))), c.want)
	}
	check(t, "an empty name", valueAnswer(engine.Value(ours(), one(api.Bound{Value: val(1)}), nil, api.Node{Kind: api.ExVar})), "1")
	check(t, "a constant below 0", does(constant(-5)), "-5")
	check(t, "a row of one", valueAnswer(engine.Value(ours(), nil, row("z"), at(0))), "'z'")
}

// P13.1: each operator, of values on both sides, with null on either side and on both.
func TestOperators(t *testing.T) {
	values(t,
		"-a", "-3", "-m", "null", "- -a", "3", "-null", "null", "-:least", "ErrOver", "-:most", "-9223372036854775807",
		"not b", "true", "not :b", "false", "not null", "null", "not (m = 1)", "null",
		"m is null", "true", "m is not null", "false", "a is null", "false", "a is not null", "true", "null is null", "true", "(1 / 0) is null", "ErrZero", "(1 / 0) is not null", "ErrZero",
		"b is null", "false", "'' is null", "false", "0 is null", "false", "(m = m) is null", "true",
		"1 = 1", "true", "1 = 2", "false", "m = 1", "null", "1 = m", "null", "m = m", "null", "'a' = 'a'", "true", "'a' = 'A'", "false", "true = true", "true", "true = false", "false",
		"1 <> 1", "false", "1 <> 2", "true", "m <> 1", "null", "1 <> m", "null", "'a' <> 'b'", "true", "b <> b", "false",
		"1 < 1", "false", "1 < 2", "true", "2 < 1", "false", "m < 1", "null", "1 < m", "null", "'a' < 'ab'", "true", "'b' < 'ab'", "false", "false < true", "true", "true < false", "false",
		"1 <= 1", "true", "1 <= 2", "true", "2 <= 1", "false", "m <= 1", "null", "1 <= m", "null", "'ab' <= 'a'", "false",
		"1 > 1", "false", "1 > 2", "false", "2 > 1", "true", "m > 1", "null", "1 > m", "null", "'b' > 'ab'", "true",
		"1 >= 1", "true", "1 >= 2", "false", "2 >= 1", "true", "m >= 1", "null", "1 >= m", "null", "'a' >= 'ab'", "false",
		"1 + 2", "3", "m + 1", "null", "1 + m", "null", ":most + 1", "ErrOver", ":least + :most", "-1",
		"1 - 2", "-1", "m - 1", "null", "1 - m", "null", ":least - 1", "ErrOver",
		"2 * 3", "6", "m * 1", "null", "1 * m", "null", ":most * 2", "ErrOver",
		"-7 / 2", "-3", "7 / 2", "3", "m / 0", "null", "1 / m", "null", "1 / 0", "ErrZero", ":least / -1", "ErrOver",
		"-7 % 2", "-1", "7 % -2", "1", "m % 0", "null", "1 % m", "null", "1 % 0", "ErrZero",
		"'a' || 'b'", "'ab'", "'' || ''", "''", "null || 'b'", "null", "'b' || null", "null", ":long || :long", "ErrMany", "s || :s", "'cv'",
	)
}

// P13.1: and, or, of all three on either side.
func TestAndOr(t *testing.T) {
	and := map[string]string{"true true": "true", "true null": "null", "null true": "null", "null null": "null"}
	or := map[string]string{"false false": "false", "false null": "null", "null false": "null", "null null": "null"}
	for _, a := range []string{"true", "false", "null"} {
		for _, b := range []string{"true", "false", "null"} {
			values(t, a+" and "+b, cmp.Or(and[a+" "+b], "false"), a+" or "+b, cmp.Or(or[a+" "+b], "true"))
		}
	}
}

var marks = []string{"or", "and", "=", "<>", "<", "<=", ">", ">=", "+", "-", "*", "/", "%", "||"}

// raising are nodes that raise something, by the error's name.
func raising(t *testing.T) map[string]api.Node {
	return map[string]api.Node{
		"ErrOver": nodeOf(t, ":most + 1"), "ErrZero": nodeOf(t, "1 / 0"), "ErrMany": nodeOf(t, ":long || :long"),
		"ErrType": marked(constant("a"), "+", constant(1)), "ErrSingle": nodeOf(t, "(select a as x from t)"),
		"ErrRows": nodeOf(t, "exists (select n as x from h union all select 1 as x from h join g on h.n < 6)"),
	}
}

// The first error from the left: that of the left kid, then that of the right one, then the operator's own; no kid is left out, whatever the other one comes to.
func TestErrorsFromTheLeft(t *testing.T) {
	all := raising(t)
	for name, bad := range all {
		check(t, "alone", does(bad), name)
		for _, kind := range []int{api.ExNeg, api.ExNot, api.ExIs} {
			check(t, kind, does(node(kind, bad)), name)
		}
		for _, mark := range marks {
			for _, x := range []any{nil, true, false, 0, 1, "a"} {
				check(t, fmt.Sprint(name, mark, x), does(marked(bad, mark, constant(x))), name)
				check(t, fmt.Sprint(x, mark, name), does(marked(constant(x), mark, bad)), name)
			}
			for other, worse := range all {
				check(t, fmt.Sprint(name, mark, other), does(marked(bad, mark, worse)), name)
				check(t, fmt.Sprint(other, mark, name), does(marked(worse, mark, bad)), other)
			}
		}
	}
	values(t, "false and 1 / 0 = 1", "ErrZero", "true or 1 / 0 = 1", "ErrZero", "null and 1 / 0 = 1", "ErrZero",
		"(1 / 0) + (:most + 1)", "ErrZero", "(:most + 1) / 0", "ErrOver", "m + (1 / 0)", "ErrZero", "(1 / 0) + m", "ErrZero", "1 / (1 - 1)", "ErrZero")
}

// Values of another type than the operator's are ErrType, as values are reckoned, unless null stands first there.
func TestOtherTypes(t *testing.T) {
	for _, mark := range marks {
		for _, x := range []any{true, 1, "a"} {
			for _, y := range []any{true, 1, "a"} {
				if val(x).Type == val(y).Type {
					continue
				}
				check(t, fmt.Sprint(x, mark, y), does(marked(constant(x), mark, constant(y))), "ErrType")
			}
		}
	}
	check(t, "- true", does(node(api.ExNeg, constant(true))), "ErrType")
	check(t, "not 1", does(node(api.ExNot, constant(1))), "ErrType")
	check(t, "1 and false", does(marked(constant(1), "and", constant(false))), "ErrType")
	check(t, "true or 1", does(marked(constant(true), "or", constant(1))), "ErrType")
	check(t, "null + true", does(marked(constant(nil), "+", constant(true))), "ErrType")
	check(t, "1 in a text", does(asking(api.ExIn, told(row("a")), constant(1))), "ErrType")
}

// ExCase does just one of the second and the third kid.
func TestCase(t *testing.T) {
	values(t,
		"case when true then 1 else 2 end", "1", "case when false then 1 else 2 end", "2", "case when null then 1 else 2 end", "2",
		"case when true then 1 else 1 / 0 end", "1", "case when false then 1 / 0 else 2 end", "2", "case when null then 1 / 0 else 2 end", "2",
		"case when true then 1 / 0 else 2 end", "ErrZero", "case when false then 1 else 1 / 0 end", "ErrZero", "case when m = 1 then 1 else 1 / 0 end", "ErrZero",
		"case when 1 / 0 = 1 then :most + 1 else :most + 1 end", "ErrZero", "case when b then 'x' else s end", "'c'", "case when true then null else 2 end", "null",
		"case when true then 1 else (select a as x from t) end", "1", "case when a = 3 then case when b then 1 else 2 end else 3 end", "2",
		"case when exists (select a as x from t) then 1 else (select a as x from t) end", "1",
	)
}

// ExExists, ExScalar: of no rows, one and more, with null in the row, and with an error in the query.
func TestExistsScalar(t *testing.T) {
	values(t,
		"exists (select a as x from e)", "false", "exists (select x as x from one)", "true", "exists (select a as x from t)", "true", "exists (select null as x)", "true",
		"not exists (select a as x from e)", "true", "exists (select 1 / 0 as x from e)", "false", "exists (select 1 / 0 as x from one)", "ErrZero",
		"exists (select x as x from one limit 0)", "false", "exists (select false as x, null as y)", "true", "exists (select 1 / a as x from u)", "ErrZero",
		"(select a as x from e)", "null", "(select x as x from one)", "5", "(select a as x from t)", "ErrSingle", "(select a as x from t limit 1)", "1",
		"(select null as x)", "null", "(select c as x from u where a = 2)", "null", "(select 1 / 0 as x from e)", "null", "(select 1 / 0 as x from t)", "ErrZero",
		"(select a as x from t where a = 2)", "ErrSingle", "(select count(*) as n from t)", "4", "(select count(*) as n from t visible)", "3",
		"(select distinct a as x from t where a = 2)", "2", "(select x as x from one) + a", "8", "-(select a as x from t)", "ErrSingle",
		"(select max(c) as x from u) + (select min(c) as x from u)", "50", "(select :i as x)", "7",
	)
}

// ExIn: of no rows, one and more, with null as the kid and among the rows; with N 1 Not of that; the kid's error ahead of the query's.
func TestIn(t *testing.T) {
	for _, c := range []struct{ in, is, not string }{
		{"in (select a as x from e)", "false", "true"},
		{"in (select x as x from one)", "false", "true"},
		{"in (select x - 2 as x from one)", "true", "false"},
		{"in (select a as x from t)", "true", "false"},
		{"in (select c as x from u)", "null", "null"},
		{"in (select c as x from u where c > 10)", "false", "true"},
		{"in (select null as x)", "null", "null"},
		{"in (select null as x union all select 3 as x)", "true", "false"},
		{"in (select 3 as x union all select null as x)", "true", "false"},
		{"in (select 4 as x union all select null as x)", "null", "null"},
		{"in (select 1 / 0 as x)", "ErrZero", "ErrZero"},
		{"in (select 1 / 0 as x from e)", "false", "true"},
	} {
		values(t, "a "+c.in, c.is, "a not "+c.in, c.not)
	}
	for _, c := range []struct{ in, is, not string }{
		{"in (select a as x from e)", "false", "true"},
		{"in (select x as x from one)", "null", "null"},
		{"in (select null as x)", "null", "null"},
		{"in (select a as x from t)", "null", "null"},
		{"in (select 1 / 0 as x)", "ErrZero", "ErrZero"},
	} {
		values(t, "m "+c.in, c.is, "m not "+c.in, c.not, "null "+c.in, c.is, "null not "+c.in, c.not)
	}
	values(t,
		"(:most + 1) in (select 1 / 0 as x)", "ErrOver", "(:most + 1) not in (select 1 / 0 as x)", "ErrOver", "(:most + 1) in (select a as x from e)", "ErrOver",
		"s in (select s as x from t)", "null", "'x' in (select s as x from t)", "true", "'x' not in (select s as x from t)", "false", "'z' in (select s as x from t)", "null",
		"b in (select b as x from t)", "true", "true in (select b as x from t visible)", "null", "'y' in (select s as x from t visible)", "null", "'y' in (select s as x from t)", "true",
	)
}

// Queries see variables, but no columns from outside; they are done anew in each call.
func TestQueriesWithinQueries(t *testing.T) {
	answers(t,
		"select a as x from t where a in (select a as x from u where c in (select c as y from u where a = 1))", "(1)",
		"select a as x, (select max(c) as m from u where a = :none) as y, (select count(*) as n from u where a < :i) as z from t limit 1", "(1 null 4)",
		"select x as x from (select a as x from t where exists (select a as x from u where a > 1)) as q where x > (select min(a) as x from t)", "(2) (2) (3)",
		"select a as x from t where a = (select x as x from one) - 2", "(3)",
		"select a as x from t where (select a as x from u) = 1", "ErrSingle",
		"select a as x from e where (select a as x from u) = 1", "none",
		"select a as x from t where case when a > 5 then (select a as x from u) = 1 else true end", "(1) (2) (2) (3)",
		"select a as x from t where case when a > 2 then (select a as x from u) = 1 else true end", "ErrSingle",
		"select count(*) as n from t where exists (select 1 as x where exists (select 1 as x where false))", "(0)",
		"select sum((select x as x from one)) as n from t", "(20)",
		"select a as x from t group by a having a in (select c / 10 as x from u)", "(1) (2) (3)",
		"select a as x from t order by case when x in (select 2 as y) then 0 else x end", "(2) (2) (1) (3)",
		"select t.a as x, u.c as y from t join u on t.a = u.a and u.c in (select c as c from u where c > 10)", "(1 30)",
	)
	d, p := ours(), planOf(t, ourCatalog(), "select (select count(*) as n from one) as x from e union all select (select count(*) as n from one) as x")
	check(t, "one row", rowsAnswer(engine.Rows(d, nil, p)), "(1)")
	if err := d.Add(2, row(6)); err != api.OK {
		t.Fatal(err)
	}
	check(t, "two rows", rowsAnswer(engine.Rows(d, nil, p)), "(2)")
}

// P1: queries within one another come to something in time, though each is asked for by every row of the one around it.
func TestManyWithinOneAnother(t *testing.T) {
	once, often := "select n as x from h where n > 99", "select n as x from h where n > 99"
	for range 12 {
		once = "select n as x from h where n in (" + once + ")"
	}
	for range 4 {
		often = "select h.n as x from h join g on h.n = g.n and h.n in (" + often + ") where (" + often + ") >= 0 and exists (" + often + ")"
	}
	answers(t, once, "(100)", often, "(100)")
	deep := scan(4)
	for range 3000 {
		deep = above(api.PlSelect, scan(4), asking(api.ExIn, deep, at(0)))
	}
	check(t, "very deep", runs(above(api.PlLimit, deep)), "none")
	check(t, "very deep", runs(api.Plan{Kind: api.PlGroup, Kids: one(deep), Aggs: one(api.Gather{Fn: "count"}), Width: 1}), "(100)")
}
