package syntax_test

import (
	"testing"

	"cordon/api"
)

// P6.1, of expressions.

func TestExprExample(t *testing.T) {
	reads(t, exprs(), "a + b * c", bin(col("a"), "+", bin(col("b"), "*", col("c"))))
}

func TestPrims(t *testing.T) {
	q := selA("a")
	for s, want := range map[string]api.Expr{
		"0":                                      num(0),
		"007":                                    num(7),
		"999999999999999999":                     num(999999999999999999),
		"''":                                     text(""),
		"'it''s'":                                text("it's"),
		"'select'":                               text("select"),
		"'('":                                    text("("),
		"null":                                   null(),
		"true":                                   yes(),
		"false":                                  no(),
		":v":                                     variable("v"),
		": v":                                    variable("v"),
		":count":                                 variable("count"),
		"a":                                      col("a"),
		"_":                                      col("_"),
		"t.a":                                    colOf("t", "a"),
		"t . a":                                  colOf("t", "a"),
		"count.sum":                              colOf("count", "sum"),
		"count":                                  col("count"),
		"sum":                                    col("sum"),
		"min":                                    col("min"),
		"max":                                    col("max"),
		"Null":                                   col("Null"),
		"SELECT":                                 col("SELECT"),
		"(a)":                                    col("a"),
		"((a))":                                  col("a"),
		"(select a as x)":                        scalar(q),
		"((select a as x))":                      scalar(q),
		"(select a as x union select b as x)":    scalar(put(api.QuUnion, q, selA("b"))),
		"(select a as x except (select b as x))": scalar(put(api.QuExcept, q, selA("b"))),
		"case when a then b else c end":          choice(col("a"), col("b"), col("c")),
		"case when a or b then not c else - d end":                  choice(bin(col("a"), "or", col("b")), not(col("c")), neg(col("d"))),
		"case when case when a then b else c end then d else e end": choice(choice(col("a"), col("b"), col("c")), col("d"), col("e")),
		"exists (select a as x)":                                    exists(q),
		"exists ((select a as x))":                                  exists(q),
		"exists ((select a as x) union all select b as x)":          exists(put(api.QuUnionAll, q, selA("b"))),
		"count(*)":               agg("count"),
		"count ( * )":            agg("count"),
		"count(a)":               agg("count", col("a")),
		"sum(a)":                 agg("sum", col("a")),
		"min(a)":                 agg("min", col("a")),
		"max(a)":                 agg("max", col("a")),
		"sum(a or b)":            agg("sum", bin(col("a"), "or", col("b"))),
		"count((select a as x))": agg("count", scalar(q)),
		"max(max(a))":            agg("max", agg("max", col("a"))),
		"count(count)":           agg("count", col("count")),
	} {
		reads(t, exprs(), s, want)
	}
}

// Each operator alone, of two operands that are there and with one that is not.
func TestOperators(t *testing.T) {
	a, b := col("a"), col("b")
	for _, mark := range []string{"or", "and", "=", "<>", "<", "<=", ">", ">=", "+", "-", "||", "*", "/", "%"} {
		reads(t, exprs(), "a "+mark+" b", bin(a, mark, b))
		reads(t, exprs(), "(a "+mark+" b)", bin(a, mark, b))
		refusesHere(t, exprs(), "a "+mark+" §", api.ErrForm)
		refusesHere(t, exprs(), "(a "+mark+" §)", api.ErrForm)
		if mark != "-" {
			refusesHere(t, exprs(), "§"+mark+" b", api.ErrForm)
			refusesHere(t, exprs(), "a "+mark+" §"+mark+" b", api.ErrForm)
		}
	}
	reads(t, exprs(), "a - - b", bin(a, "-", neg(b)))
	reads(t, exprs(), "- a", neg(a))
	reads(t, exprs(), "-1", neg(num(1)))
	reads(t, exprs(), "- - a", neg(neg(a)))
	reads(t, exprs(), "not a", not(a))
	reads(t, exprs(), "not not a", not(not(a)))
	reads(t, exprs(), "not - a", not(neg(a)))
	reads(t, exprs(), "a is null", is(0, a))
	reads(t, exprs(), "a is not null", is(1, a))
	reads(t, exprs(), "null is null", is(0, null()))
	reads(t, exprs(), "a in (select a as x)", in(0, a, selA("a")))
	reads(t, exprs(), "a not in (select a as x)", in(1, a, selA("a")))
	reads(t, exprs(), "a in ((select a as x) intersect select b as x)", in(0, a, put(api.QuIntersect, selA("a"), selA("b"))))
	refusesHere(t, exprs(), "a is§", api.ErrForm)
	refusesHere(t, exprs(), "a is §b", api.ErrForm)
	refusesHere(t, exprs(), "a is not §true", api.ErrForm)
	refusesHere(t, exprs(), "a is not §not null", api.ErrForm)
	refusesHere(t, exprs(), "a not §null", api.ErrForm)
	refusesHere(t, exprs(), "a not §not in (select a as x)", api.ErrForm)
	refusesHere(t, exprs(), "a in §b", api.ErrForm)
	refusesHere(t, exprs(), "a in (§b)", api.ErrForm)
	refusesHere(t, exprs(), "a in (§)", api.ErrForm)
	refusesHere(t, exprs(), "a not in (select a as x§", api.ErrForm)
	refusesHere(t, exprs(), "- §not a", api.ErrForm)
	refusesHere(t, exprs(), "a = §not b", api.ErrForm)
	refusesHere(t, exprs(), "a + §not b", api.ErrForm)
	refusesHere(t, exprs(), "§+ a", api.ErrForm)
}

// tiers are operators, from those that bind least to those that bind most.
func tiers() [][]string {
	return [][]string{{"or"}, {"and"}, {"=", "<>", "<", "<=", ">", ">="}, {"+", "-", "||"}, {"*", "/", "%"}}
}

const compares = 2 // the tier of which none may stand behind another one

func TestBinding(t *testing.T) {
	a, b, c := col("a"), col("b"), col("c")
	for i, low := range tiers() {
		for j, high := range tiers() {
			for _, x := range low {
				for _, y := range high {
					s := "a " + x + " b " + y + " c"
					switch {
					case i == j && i == compares:
						refuses(t, exprs(), s, len("a "+x+" b "), api.ErrForm)
					case i < j:
						reads(t, exprs(), s, bin(a, x, bin(b, y, c)))
					default:
						reads(t, exprs(), s, bin(bin(a, x, b), y, c))
					}
					reads(t, exprs(), "(a "+x+" b) "+y+" c", bin(bin(a, x, b), y, c))
					reads(t, exprs(), "a "+x+" (b "+y+" c)", bin(a, x, bin(b, y, c)))
				}
			}
		}
	}
}

func TestBindingOfOne(t *testing.T) {
	a, b := col("a"), col("b")
	q := "(select a as x)"
	for i, tier := range tiers() {
		for _, x := range tier {
			reads(t, exprs(), "- a "+x+" b", bin(neg(a), x, b))
			reads(t, exprs(), "a "+x+" - b", bin(a, x, neg(b)))
			if i < compares {
				reads(t, exprs(), "not a "+x+" b", bin(not(a), x, b))
				reads(t, exprs(), "a "+x+" not b", bin(a, x, not(b)))
				reads(t, exprs(), "a "+x+" b is null", bin(a, x, is(0, b)))
				reads(t, exprs(), "a is not null "+x+" b", bin(is(1, a), x, b))
				reads(t, exprs(), "a "+x+" b not in "+q, bin(a, x, in(1, b, selA("a"))))
				reads(t, exprs(), "a in "+q+" "+x+" b", bin(in(0, a, selA("a")), x, b))
				continue
			}
			reads(t, exprs(), "not a "+x+" b", not(bin(a, x, b)))
			refusesHere(t, exprs(), "a "+x+" §not b", api.ErrForm)
			refusesHere(t, exprs(), "a is null §"+x+" b", api.ErrForm)
			refusesHere(t, exprs(), "a in "+q+" §"+x+" b", api.ErrForm)
			if i == compares {
				refusesHere(t, exprs(), "a "+x+" b §is null", api.ErrForm)
				refusesHere(t, exprs(), "a "+x+" b §in "+q, api.ErrForm)
				refusesHere(t, exprs(), "a "+x+" b §not in "+q, api.ErrForm)
				continue
			}
			reads(t, exprs(), "a "+x+" b is null", is(0, bin(a, x, b)))
			reads(t, exprs(), "a "+x+" b in "+q, in(0, bin(a, x, b), selA("a")))
		}
	}
	reads(t, exprs(), "not a is null", not(is(0, a)))
	reads(t, exprs(), "not a in "+q, not(in(0, a, selA("a"))))
	reads(t, exprs(), "not a not in "+q, not(in(1, a, selA("a"))))
	reads(t, exprs(), "- a is null", is(0, neg(a)))
	refusesHere(t, exprs(), "a is null §is null", api.ErrForm)
	refusesHere(t, exprs(), "a is null §in "+q, api.ErrForm)
	refusesHere(t, exprs(), "a in "+q+" §is null", api.ErrForm)
	refusesHere(t, exprs(), "a in "+q+" §in "+q, api.ErrForm)
}

// Several side by side are put together from the left.
func TestFromLeft(t *testing.T) {
	a, b, c, d := col("a"), col("b"), col("c"), col("d")
	reads(t, exprs(), "a or b or c", bin(bin(a, "or", b), "or", c))
	for i, tier := range tiers() {
		if i == compares {
			continue
		}
		for _, x := range tier {
			for _, y := range tier {
				for _, z := range tier {
					reads(t, exprs(), "a "+x+" b "+y+" c "+z+" d", bin(bin(bin(a, x, b), y, c), z, d))
				}
			}
		}
	}
	reads(t, exprs(), "a or b and not c = d + 1 * - 2",
		bin(a, "or", bin(b, "and", not(bin(c, "=", bin(d, "+", bin(num(1), "*", neg(num(2)))))))))
	reads(t, exprs(), "- a * b + c < d and a or b",
		bin(bin(bin(bin(bin(neg(a), "*", b), "+", c), "<", d), "and", a), "or", b))
}

// A name ahead of a ( gathers, or may not stand there: it is the ( with which nothing can go on.
func TestNamesAheadOfBrackets(t *testing.T) {
	for _, name := range []string{"foo", "a", "Count", "COUNT", "counts", "cou", "avg", "_", "sum1", "mini", "maxi", "Sum"} {
		refusesHere(t, exprs(), name+"§(a)", api.ErrForm)
		refusesHere(t, exprs(), name+" §(*)", api.ErrForm)
		refusesHere(t, exprs(), name+"§(", api.ErrForm)
		refusesHere(t, exprs(), "1 + "+name+" §(select a as x)", api.ErrForm)
		refusesHere(t, queries(), "select "+name+"§(a) as x", api.ErrForm)
		refusesHere(t, scripts(), "set x = "+name+"§(a);", api.ErrForm)
	}
	for _, name := range []string{"sum", "min", "max"} {
		refusesHere(t, exprs(), name+"(§*)", api.ErrForm)
		refusesHere(t, exprs(), name+"(§)", api.ErrForm)
		refusesHere(t, exprs(), name+"(a§, b)", api.ErrForm)
		refusesHere(t, exprs(), name+"(§select a as x)", api.ErrForm)
		refusesHere(t, exprs(), "t."+name+"§(a)", api.ErrForm)
		refusesHere(t, exprs(), ":"+name+"§(a)", api.ErrForm)
	}
	refusesHere(t, exprs(), "count(§)", api.ErrForm)
	refusesHere(t, exprs(), "count(*§", api.ErrForm)
	refusesHere(t, exprs(), "count(* §* 2)", api.ErrForm)
	refusesHere(t, exprs(), "count(*§, a)", api.ErrForm)
	refusesHere(t, exprs(), "count(a§, b)", api.ErrForm)
	refusesHere(t, exprs(), "count(§distinct a)", api.ErrForm)
	refusesHere(t, exprs(), "count.§*", api.ErrForm)
	refusesHere(t, exprs(), "t.count§(*)", api.ErrForm)
}

// What brackets hold is a query just if select stands right behind the (.
func TestBracketsOfQueries(t *testing.T) {
	reads(t, exprs(), "((select a as x) + 1)", bin(scalar(selA("a")), "+", num(1)))
	reads(t, exprs(), "(((select a as x)))", scalar(selA("a")))
	reads(t, exprs(), "(select a as x) = (select b as x)", bin(scalar(selA("a")), "=", scalar(selA("b"))))
	refusesHere(t, exprs(), "((select a as x) §union select b as x)", api.ErrForm)
	refusesHere(t, exprs(), "((select a as x) §limit 1)", api.ErrForm)
	refusesHere(t, exprs(), "§select a as x", api.ErrForm)
	refusesHere(t, exprs(), "1 + §select a as x", api.ErrForm)
	refusesHere(t, exprs(), "(1 + §select a as x)", api.ErrForm)
	refusesHere(t, exprs(), "('select' §as x)", api.ErrForm)
}

func TestWrongPrims(t *testing.T) {
	for _, s := range []string{
		"§", "§)", "§,", "§;", "§.", "§{", "§}", "(§", "(§)", ":§", ":§1", ":§'v'", ":§:v", "t.§", "t.§1", "t.§'a'", "t.§*", "t.a§.b", "§.a", "1§.2", "'a'§.b",
		"a §b", "a §1", "1 §a", "1 §2", "'a' §'b'", "(a§", "(a §b)", "a§)", "(a)§)", "(a)§(b)", "1§(a)", "'a'§(b)", "null§(a)", "true§.a", "a§,b", "a§;", "a §as x",
		"case§", "case §a", "case when§", "case when §then", "case when a§", "case when a §else b end", "case when a then§", "case when a then b§", "case when a then b §end",
		"case when a then b else§", "case when a then b else c§", "case when a then b else c §when d then e end", "case when a then b else c end §end",
		"exists§", "exists §a", "exists §select a as x", "exists (§", "exists (§a)", "exists (select a as x§", "exists (select a as x)§(", "exists ((§a))",
	} {
		refusesHere(t, exprs(), s, api.ErrForm)
	}
}
