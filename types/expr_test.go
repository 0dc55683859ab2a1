package types_test

import (
	"fmt"
	"testing"

	"cordon/api"
	"cordon/types"
)

// shapes are ways to say something of each type: null, bool, int, text.
func shapes() map[string][]api.Expr {
	var scalars, choices, cases []api.Expr
	for i, x := range constants() {
		scalars = append(scalars, scalar(sel(x)))
		choices = append(choices, choice(yes(), null(), x))
		cases = append(cases, choice(null(), colOf("t", []string{"n", "b", "i", "s"}[i]), null()))
	}
	return map[string][]api.Expr{
		"constant": constants(),
		"column":   one(col("n"), col("b"), col("i"), col("s")),
		"of t":     one(colOf("t", "n"), colOf("t", "b"), colOf("t", "i"), colOf("t", "s")),
		"variable": one(variable("n"), variable("b"), variable("i"), variable("s")),
		"query":    scalars,
		"choice":   choices,
		"case":     cases,
	}
}

// wantOf is what a rule makes of some types, as a text.
func wantOf(rule string, of ...int) string {
	kinds := ""
	for _, kind := range of {
		kinds += fmt.Sprint(kind)
	}
	if kind, ok := ruled(rule, kinds); ok {
		return typeNames[kind]
	}
	return "ErrType"
}

func TestConstants(t *testing.T) {
	for name, shape := range shapes() {
		for kind, x := range shape {
			exprIs(t, name, x, typeNames[kind])
		}
	}
	for _, x := range []api.Expr{num(0), num(999999999999999999)} {
		exprIs(t, "a number", x, "int")
	}
	exprIs(t, "false", api.Expr{Kind: api.ExBool}, "bool")
	exprIs(t, "an empty text", text(""), "text")
}

// P9.1: each kind with one kid, over each type.
func TestOneKid(t *testing.T) {
	for name, shape := range shapes() {
		for kind, x := range shape {
			exprIs(t, "- "+name, neg(x), wantOf("neg", kind))
			exprIs(t, "not "+name, not(x), wantOf("not", kind))
			for n := range 2 {
				exprIs(t, name+" is null", is(n, x), "bool")
			}
			exprIs(t, "exists "+name, exists(sel(one(null(), yes(), num(1), text("x"))[kind], null())), "bool")
		}
	}
}

// P9.1: each mark over each pair of types.
func TestMarks(t *testing.T) {
	for nameA, as := range shapes() {
		for nameB, bs := range shapes() {
			for kindA, a := range as {
				for kindB, b := range bs {
					for _, mark := range marks {
						x := bin(a, mark, b)
						exprIs(t, nameA+" "+mark+" "+nameB, x, wantOf(ruleOf(x), kindA, kindB))
					}
				}
			}
		}
	}
}

// P9.1: case over each three types, and in over each two.
func TestCaseAndIn(t *testing.T) {
	for name, shape := range shapes() {
		for a, x := range shape {
			for b, y := range shape {
				for c, z := range shape {
					exprIs(t, "case of "+name, choice(x, y, z), wantOf("case", a, b, c))
				}
				for n := range 2 {
					exprIs(t, name+" in", in(n, x, sel(constants()[b])), wantOf("in", a, b))
				}
			}
		}
	}
}

// ExAgg over each type, in an item.
func TestGathers(t *testing.T) {
	columns := [][]api.Expr{constants(), one(null(), col("b1"), colOf("t", "i1"), col("s1")), one(variable("n"), variable("b"), variable("i"), variable("s"))}
	for _, shape := range columns {
		for kind, x := range shape {
			for _, name := range []string{"count", "sum", "min", "max"} {
				want := wantOf(name, kind)
				if want != "ErrType" {
					want = "x " + want
				}
				queryIs(t, name, with(sel(agg(name, x)), func(q *api.Query) { q.From = one(table("t", "t")) }), want)
			}
		}
	}
	queryIs(t, "count(*)", sel(agg("count")), "x int")
}

// Types of columns and variables that no value has are taken as they come.
func TestOddTypes(t *testing.T) {
	for _, odd := range []int{4, 7, -1, 1<<63 - 1, -1 << 63} {
		cols := []api.Place{{Name: "a", Type: odd}, {Name: "b", Type: odd}, {Name: "c", Type: api.TyInt}, {Name: "d", Type: odd ^ 64}}
		vars := []api.Var{{Name: "v", Type: odd}}
		for text, want := range map[string]int{"a": odd, ":v": odd, "a = b": api.TyBool, "a < null": api.TyBool, "a is null": api.TyBool, "case when null then null else :v end": odd, "case when true then a else b end": odd, "(select :v as x)": odd, "a in (select :v as x)": api.TyBool} {
			if kind, err := types.Expr(ours().c, vars, cols, readExpr(t, text)); kind != want || err != api.OK {
				t.Errorf("%s of %d: %d %v, want %d", text, odd, kind, err, want)
			}
		}
		for _, text := range []string{"-a", "not a", "a + 1", "a || 'x'", "a and true", "a or null", "a = c", "a <> d", "a in (select 1 as x)", "case when a then 1 else 2 end", "case when true then a else c end", "case when true then a else d end"} {
			if kind, err := types.Expr(ours().c, vars, cols, readExpr(t, text)); kind != 0 || err != api.ErrType {
				t.Errorf("%s of %d: %d %v", text, odd, kind, err)
			}
		}
		q := readQuery(t, "select null as x union select :v as y union select x as z from (select :v as x) as q group by x having max(x) = :v order by z")
		if cols, err := types.Query(ours().c, vars, q); err != api.OK || len(cols) != 1 || cols[0] != (api.Place{Name: "x", Type: odd}) {
			t.Errorf("of %d: %v %v", odd, cols, err)
		}
	}
}

// A column is found, if just one is such.
func TestColumns(t *testing.T) {
	for text, want := range map[string]string{
		"i": "int", "t.i": "int", "u.i": "ErrName", "nosuch": "ErrName", "t.nosuch": "ErrName", "nosuch.i": "ErrName", "I": "ErrName", "T.i": "ErrName",
		"both": "ErrName", "t.both": "int", "u.both": "text", "v.both": "ErrName", "twin": "ErrName", "u.twin": "ErrName", "t.twin": "ErrName",
		"bare": "int", "t.bare": "ErrName", "bare.bare": "ErrName", "t": "ErrName", "t.t": "ErrName",
		"t.both + 1": "int", "u.both + 1": "ErrType", "both + 1": "ErrName",
	} {
		exprIs(t, text, readExpr(t, text), want)
	}
	w := ours()
	for _, text := range []string{"i", "t.i", "bare"} {
		if got := kindTold(types.Expr(w.c, w.vars, nil, readExpr(t, text))); got != "ErrName" {
			t.Errorf("%s of no places: %s", text, got)
		}
	}
}

// A variable is the first one of its name; columns are none, and variables are no columns.
func TestVariables(t *testing.T) {
	for text, want := range map[string]string{
		":n": "null", ":b": "bool", ":i": "int", ":s": "text", ":nosuch": "ErrName", ":I": "ErrName", ":bare": "ErrName", ":t": "ErrName",
		":i + 1": "int", ":i || 'x'": "ErrType", "not :b": "bool", "-:b": "ErrType",
		"exists (select :i + 1 as x)": "bool", "(select :s as x from t where :b)": "text", "(select i as x)": "ErrName", "(select :nosuch as x)": "ErrName",
	} {
		exprIs(t, text, readExpr(t, text), want)
	}
	if got := kindTold(types.Expr(ours().c, nil, ourPlaces(), variable("i"))); got != "ErrName" {
		t.Error(got)
	}
}

// flaw is an expression of which something is wrong.
type flaw struct {
	x    api.Expr
	want string
}

// flaws are wrong wherever they stand.
func flaws() []flaw {
	wide := sel(numbered(api.MaxCols+1, func(int) api.Expr { return null() })...)
	return []flaw{
		{col("nosuch"), "ErrName"}, {variable("nosuch"), "ErrName"}, {scalar(sel(col("i"))), "ErrName"},
		{scalar(sel(num(1), num(2))), "ErrShape"}, {exists(sel(agg("sum", agg("count")))), "ErrShape"},
		{neg(text("x")), "ErrType"}, {choice(num(1), null(), null()), "ErrType"}, {exists(put(api.QuUnion, sel(num(1)), sel(text("x")))), "ErrType"},
		{exists(wide), "ErrMany"}, {scalar(wide), "ErrMany"},
	}
}

// rowFlaws are wrong where nothing may be gathered, whatever is wrong with what they gather.
func rowFlaws() []flaw {
	return append(flaws(), flaw{agg("count"), "ErrShape"}, flaw{agg("sum", col("nosuch")), "ErrShape"}, flaw{agg("max", neg(text("x"))), "ErrShape"})
}

// Of two kids the first one's error is told, and a kid's ahead of its parent's.
func TestFlawedKids(t *testing.T) {
	for _, f := range rowFlaws() {
		exprIs(t, "alone", f.x, f.want)
		exprIs(t, "-", neg(f.x), f.want)
		exprIs(t, "not", not(f.x), f.want)
		exprIs(t, "is null", is(0, f.x), f.want)
		for _, mark := range marks {
			for _, other := range constants() {
				exprIs(t, "first, "+mark, bin(f.x, mark, other), f.want)
				exprIs(t, "second, "+mark, bin(other, mark, f.x), f.want)
			}
			for _, g := range rowFlaws() {
				exprIs(t, "both, "+mark, bin(f.x, mark, g.x), f.want)
			}
		}
		for _, other := range constants() {
			exprIs(t, "case, first", choice(f.x, other, num(1)), f.want)
			exprIs(t, "case, second", choice(num(1), f.x, other), f.want)
			exprIs(t, "case, third", choice(num(1), other, f.x), f.want)
		}
		for _, g := range rowFlaws() {
			exprIs(t, "case, first and second", choice(f.x, g.x, num(1)), f.want)
			exprIs(t, "case, first and third", choice(f.x, num(1), g.x), f.want)
			exprIs(t, "case, second and third", choice(num(1), f.x, g.x), f.want)
		}
	}
}

// Of ExIn the kid, then the query, then how many columns it has, then both types.
func TestIn(t *testing.T) {
	two := sel(num(1), num(2))
	for _, f := range rowFlaws() {
		exprIs(t, "the kid, and two columns", in(0, f.x, two), f.want)
		exprIs(t, "the kid, and another type", in(0, f.x, sel(text("x"))), f.want)
		for _, g := range flaws() {
			exprIs(t, "the kid, and the query", in(1, f.x, sel(g.x)), f.want)
		}
	}
	for _, f := range flaws() {
		exprIs(t, "the query", in(0, num(1), sel(f.x)), f.want)
		exprIs(t, "the query, and two columns", in(0, num(1), sel(num(1), f.x)), f.want)
		exprIs(t, "the query, of exists", exists(sel(num(1), f.x)), f.want)
		exprIs(t, "the query, of a value", scalar(sel(num(1), f.x)), f.want)
	}
	for _, x := range constants() {
		exprIs(t, "two columns", in(0, x, two), "ErrShape")
		exprIs(t, "two columns, none of them of its type", in(0, x, sel(null(), yes(), text("x"))), "ErrShape")
	}
	exprIs(t, "a value of two columns", scalar(two), "ErrShape")
	exprIs(t, "a value of three", neg(scalar(sel(text("x"), num(1), num(2)))), "ErrShape")
	exprIs(t, "exists of two", exists(two), "bool")
	exprIs(t, "a query of two queries", scalar(put(api.QuExcept, sel(null()), sel(text("x")))), "text")
	exprIs(t, "in a query of two queries", in(0, num(1), put(api.QuUnion, sel(null()), sel(text("x")))), "ErrType")
}

// Queries see no places of what they stand in, and what they stand in sees none of theirs.
func TestQueriesAreApart(t *testing.T) {
	for text, want := range map[string]string{
		"(select i as x)": "ErrName", "(select t.i as x)": "ErrName", "(select i1 as x from t)": "int", "(select t.i1 as x from t)": "int", "(select i as x from t)": "ErrName",
		"i in (select i1 as x from t)": "bool", "i1 in (select i1 as x from t)": "ErrName", "i in (select s1 as x from t)": "ErrType", "x in (select 1 as x)": "ErrName",
		"exists (select 1 as x where b)": "ErrName", "exists (select 1 as x where :b)": "bool",
		"(select count(*) as n from t)": "int", "exists (select max(s1) as m from t group by b1)": "bool", "count(*) in (select 1 as x)": "ErrShape",
		"count(*)": "ErrShape", "sum(i)": "ErrShape", "sum(s)": "ErrShape", "min(nosuch)": "ErrShape", "max((select 1 as x, 2 as y))": "ErrShape", "1 + count(*)": "ErrShape", "nosuch + count(*)": "ErrName",
	} {
		exprIs(t, text, readExpr(t, text), want)
	}
}
