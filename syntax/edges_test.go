package syntax_test

import (
	"math/rand"
	"strings"
	"testing"

	"cordon/api"
	"cordon/token"
)

// P6.1, at the bounds.

// nest is a way in which the same stands within itself: how often it may, and in one too many where that begins which is too deep.
type nest struct {
	r                  read
	ahead              string
	open, within, shut string
	behind             string
	most, at           int
}

func (x nest) text(n int) string {
	return x.ahead + strings.Repeat(x.open, n) + x.within + strings.Repeat(x.shut, n) + x.behind
}

func nests() []nest {
	const n = api.MaxNest
	e, q, s, c := exprs(), queries(), scripts(), schemas()
	return []nest{
		{e, "", "(", "a", ")", "", n - 1, 1},
		{e, "", "not ", "a", "", "", n - 1, 4},
		{e, "", "- ", "a", "", "", n - 1, 2},
		{e, "b = c or ", "a + (", "a", ")", " < d", n - 1, 5},
		{e, "", "(a or (b) and ", "a", ")", "", n - 2, 7},
		{e, "", "case when ", "a", " then b else c end", "", n - 1, 10},
		{e, "", "case when b then ", "a", " else c end", "", n - 1, 10},
		{e, "", "case when b then c else ", "a", " end", "", n - 1, 10},
		{e, "", "max(", "a", ")", "", n - 1, 4},
		{e, "", "min(", "count(*)", ")", "", n - 1, 4},
		{e, "", "- (", "a", ")", "", n/2 - 1, 3},
		{e, "", "not (", "a", ")", "", n/2 - 1, 5},
		{e, "", "(select ", "a", " as x)", "", n/2 - 1, 8},
		{e, "", "exists (select ", "a", " as x)", "", n/2 - 1, 15},
		{e, "", "a in (select ", "a", " as x)", "", n/2 - 1, 13},
		{e, "", "a not in (select distinct ", "a", " as x)", "", n/2 - 1, 26},
		{e, "", "(select b as x where ", "a", ")", "", n/2 - 1, 8},
		{e, "a or ", "(select b as x from t join u on ", "a", ")", "", n/2 - 1, 8},
		{q, "", "(", "select a as x", ")", "", n - 2, 1 + 7},
		{q, "select b as y union ", "(", "select a as x", ")", " except select b as y", n - 2, 1 + 7},
		{q, "", "select a as x from (", "select a as x", ") as t", "", n - 2, 20 + 7},
		{q, "select ", "(", "a", ")", " as x from t", n - 2, 1},
		{q, "select b as x limit 1 union select b as x group by ", "not ", "a", "", " having b", n - 2, 4},
		{q, "select b as x order by ", "- ", "a", "", " desc", n - 2, 2},
		{s, "", "try {", "skip;", "} catch { }", "", n - 1, 4},
		{s, "skip; ", "try { } catch {", "skip;", "}", "", n - 1, 4},
		{s, "", "while a {", "skip;", "}", "", n - 1, 6},
		{s, "", "if a {", "skip;", "}", "", n - 1, 3},
		{s, "", "if a { } else {", "skip;", "}", "", n - 1, 3},
		{s, "", "for x in select a as x {", "skip;", "}", "", n - 2, 16},
		{s, "proc p() {", "try {", "skip;", "} catch { }", "}", n - 1, 4},
		{s, "set x = ", "(", "a", ")", ";", n - 2, 1},
		{s, "proc p() { set x = ", "(", "a", ")", "; }", n - 2, 1},
		{s, "insert into t ", "(", "select a as x", ")", ";", n - 3, 1 + 7},
		{c, "table t rows l (a int l) hide l when ", "(", "a", ")", ";", n - 2, 1},
	}
}

func TestNests(t *testing.T) {
	j := &judge{rules: rules()}
	for _, x := range nests() {
		for n := range x.most + 1 {
			if _, at, err := x.r.call(x.text(n)); at != 0 || err != api.OK {
				t.Errorf("%s %q, %d within one another: %d %v, want it read", x.r.name, short(x.text(n)), n, at, err)
			}
		}
		s := x.text(x.most + 1)
		refuses(t, x.r, s, len(x.ahead)+x.most*len(x.open)+x.at, api.ErrDeep)
		for cut := range len(s) {
			j.holds(t, x.r, s[:cut])
		}
		for n := x.most + 2; n < x.most+6; n++ {
			if _, _, err := x.r.call(x.text(n)); err != api.ErrDeep {
				t.Errorf("%s %q, %d within one another: %v, want %v", x.r.name, short(x.text(n)), n, err, api.ErrDeep)
			}
			j.holds(t, x.r, x.text(n))
		}
	}
}

// Of a token that is both too deep and wrong too deep is told, whatever the token is.
func TestDeepAndWrong(t *testing.T) {
	for _, x := range nests() {
		s := x.text(x.most + 1)
		at := len(x.ahead) + x.most*len(x.open) + x.at
		for _, what := range alphabet() {
			if what != "distinct" || !strings.HasSuffix(s[:at], "select ") {
				refuses(t, x.r, s[:at]+" "+what+" "+s[at:], at+1, api.ErrDeep)
				refuses(t, x.r, s[:at]+" "+what, at+1, api.ErrDeep)
			}
		}
		refuses(t, x.r, s[:at], at, api.ErrDeep) // the end, too
		refuses(t, x.r, s+" )", at, api.ErrDeep)
		refuses(t, x.r, s+" ;;", at, api.ErrDeep)
		refuses(t, x.r, "} "+s, 0, api.ErrForm)
	}
	deep := strings.Repeat("(", api.MaxNest)
	refusesHere(t, exprs(), "a §b "+deep+"c", api.ErrForm)
	refusesHere(t, exprs(), "(a §b) + "+deep+"c", api.ErrForm)
	refusesHere(t, exprs(), deep+"§* b", api.ErrDeep)
	refusesHere(t, exprs(), strings.Repeat("(", api.MaxNest-1)+"a §b", api.ErrForm)
	refusesHere(t, exprs(), strings.Repeat("(", api.MaxNest-1)+"§)", api.ErrForm)
	refusesHere(t, exprs(), strings.Repeat("(", api.MaxNest-1)+"sum(§*)", api.ErrDeep)
	refusesHere(t, exprs(), strings.Repeat("(", api.MaxNest-1)+"foo§(a)", api.ErrForm)
	refusesHere(t, exprs(), strings.Repeat("(", api.MaxNest-1)+"case §a", api.ErrForm)
	refusesHere(t, exprs(), strings.Repeat("(", api.MaxNest-1)+"exists §a", api.ErrForm)
	refusesHere(t, exprs(), strings.Repeat("(", api.MaxNest-1)+"exists (§a", api.ErrDeep)
	refusesHere(t, exprs(), strings.Repeat("(", api.MaxNest-1)+"a in (§select", api.ErrDeep)
}

// At the greatest depth statements without expressions and queries may stand, and no others.
func TestStatementsInDeepBlocks(t *testing.T) {
	open, shut := strings.Repeat("try {", api.MaxNest-1), strings.Repeat("} catch { }", api.MaxNest-1)
	for _, s := range []string{"raise;", "begin;", "commit;", "rollback;", "skip;", "input x;", "delete from t;", "call p();", ""} {
		if _, at, err := scripts().call(open + s + shut); at != 0 || err != api.OK {
			t.Errorf("%q within %d blocks: %d %v, want it read", s, api.MaxNest-1, at, err)
		}
	}
	for _, s := range []string{
		"set x = §1;", "if §a { }", "while §a { }", "for x in §select a as x { }", "print out §1;", "insert into t values (§1);", "insert into t §select a as x;", "insert into t §(select a as x);",
		"update t set a = §1;", "delete from t where §a;", "try §{ } catch { }", "call p(§1);",
	} {
		refusesHere(t, scripts(), open+s+shut, api.ErrDeep)
		ahead, _, _ := strings.Cut(s, "§")
		refuses(t, scripts(), open+ahead, len(open+ahead), api.ErrDeep)
	}
}

// openers go from an operand to one within it: each § is where something one deeper begins.
func openers() []string {
	return []string{"(§", "- §", "sum(§", "case when §", "exists (§select §", "(§select §", "(§not §", "(§a or not §", "(§a in (§select distinct §", "(§1 + - §", "exists (§(§select §"}
}

// What is nested by several of these at once is as deep as all of them.
func TestMixedNests(t *testing.T) {
	rnd := rand.New(rand.NewSource(7))
	j := &judge{rules: rules()}
	for range 300 {
		s, deep, at := "", 1, 0
		for deep <= api.MaxNest {
			for i, part := range strings.Split(openers()[rnd.Intn(len(openers()))], "§") {
				if i > 0 {
					deep++
				}
				if i > 0 && deep == api.MaxNest+1 {
					at = len(s)
				}
				s += part
			}
		}
		refuses(t, exprs(), s+"a", at, api.ErrDeep)
		for _, what := range []string{"", "a", ")", "select", "*", ";"} {
			j.holds(t, exprs(), s[:at]+what)
			j.holds(t, exprs(), s[:at-1]+what)
			j.holds(t, scripts(), "set x = "+s+what)
		}
	}
}

// filled is a text with blanks behind it, of so many bytes.
func filled(s string, size int) string { return s + strings.Repeat(" ", size-len(s)) }

// ordinaryOf is a short text that is read.
func ordinaryOf(r read) string {
	return map[string]string{"Expr": "a + 1", "Query": "select a as x", "Script": "skip;", "Schema": "limit 1;"}[r.name]
}

func TestMaxSource(t *testing.T) {
	for _, r := range allFour() {
		s := ordinaryOf(r)
		want, _, _ := r.call(s)
		reads(t, r, filled(s, api.MaxSource), want)
		refuses(t, r, filled(s, api.MaxSource+1), 0, api.ErrMany)
		refuses(t, r, filled(")", api.MaxSource), 0, api.ErrForm)
		refuses(t, r, filled(")", api.MaxSource+1), 0, api.ErrMany)
		refuses(t, r, filled("|", api.MaxSource+1), 0, api.ErrMany)
		refuses(t, r, filled(s+" )", api.MaxSource), len(s)+1, api.ErrForm)
	}
}

func TestMaxTokens(t *testing.T) {
	half := api.MaxTokens/2 - 1
	chain := "a" + strings.Repeat(" + a", half) // with the end just as many as may be
	if l, _, err := token.Scan(chain); len(l) != api.MaxTokens || err != api.OK {
		t.Fatalf("%d tokens, %v", len(l), err)
	}
	want := col("a")
	for range half {
		want = bin(want, "+", col("a"))
	}
	reads(t, exprs(), chain, want)
	refuses(t, exprs(), chain+" +", len(chain)+2, api.ErrMany)
	refuses(t, exprs(), chain+" + a", len(chain)+3, api.ErrMany)

	skips := strings.Repeat("skip;", half)
	var all []api.Stmt
	for i := range half {
		all = append(all, api.Stmt{Kind: api.StSkip, At: 5 * i})
	}
	reads(t, scripts(), skips, body(all...))
	refuses(t, scripts(), skips+"skip", len(skips)+4, api.ErrForm)
	refuses(t, scripts(), skips+"skip;", len(skips)+5, api.ErrMany)
	refuses(t, scripts(), ";"+skips, 0, api.ErrForm)
	refuses(t, scripts(), ";"+skips+";", len(skips)+2, api.ErrMany) // it can't be parted, so it has no tokens

	limits := strings.Repeat("limit 1;", (api.MaxTokens-1)/3)
	reads(t, schemas(), limits, api.Schema{Limit: 1})
	refuses(t, schemas(), limits+"limit 1;", len(limits)+8, api.ErrMany)

	const more = " union select a as x" // of which the bytes are the bound, not the tokens
	unions := "select a as x" + strings.Repeat(more, (api.MaxSource-13)/len(more))
	q := selA("a")
	for range strings.Count(unions, more) {
		q = put(api.QuUnion, q, selA("a"))
	}
	reads(t, queries(), unions, q)
	refuses(t, queries(), unions+more, 0, api.ErrMany)
}

func TestEmpty(t *testing.T) {
	for _, s := range []string{"", " ", "\n", "--", "-- a\n\t"} {
		refuses(t, exprs(), s, len(s), api.ErrForm)
		refuses(t, queries(), s, len(s), api.ErrForm)
		reads(t, scripts(), s, api.Script{})
		reads(t, schemas(), s, api.Schema{})
	}
}

// What token.Scan refuses is refused by all four, with its place, ahead of all else.
func TestScanErrors(t *testing.T) {
	wrong := []string{
		"|", "!", "\"", "\x00", "\xff", "#", "@", "[", "'", "'a", "'a''", "'a\x01'", "'\t'",
		strings.Repeat("n", api.MaxName+1), strings.Repeat("1", 19), "'" + strings.Repeat("x", api.MaxText+1) + "'",
	}
	deep := strings.Repeat("(", api.MaxNest+1)
	for _, r := range allFour() {
		s := ordinaryOf(r)
		for _, w := range wrong {
			for _, front := range []string{"", " ", s + " ", ") ", "a b ", "select ", deep + " ", "-- |\n", s + s + "; } "} {
				for _, back := range []string{"", " a", " " + s, " )", "\n|", " " + deep} {
					_, at, err := token.Scan(front + w + back)
					if err == api.OK {
						t.Fatalf("%q is parted", short(front+w+back))
					}
					refuses(t, r, front+w+back, at, err)
				}
			}
		}
	}
	refusesHere(t, exprs(), "a + §|", api.ErrForm)
	refusesHere(t, exprs(), "a + 'b§\x01'", api.ErrForm)
	refusesHere(t, exprs(), "a b §'c", api.ErrForm)
	refusesHere(t, scripts(), "set x = §1234567890123456789;", api.ErrForm)
	refusesHere(t, queries(), "select a as §"+strings.Repeat("n", api.MaxName+1), api.ErrForm)
	refusesHere(t, schemas(), "levels low; §#", api.ErrForm)
}

func TestGreatNumbers(t *testing.T) {
	const most, s = 999999999999999999, "999999999999999999"
	reads(t, exprs(), s, num(most))
	reads(t, exprs(), "- "+s, neg(num(most)))
	reads(t, exprs(), "000000000000000001", num(1))
	reads(t, queries(), "select a as x limit "+s, with(selA("a"), func(q *api.Query) { q.Limit = most }))
	reads(t, schemas(), "limit "+s+";", api.Schema{Limit: most})
	refuses(t, exprs(), s+"9", 0, api.ErrForm)
	refuses(t, exprs(), "0000000000000000001", 0, api.ErrForm)
	reads(t, queries(), "select a as x limit 0", with(selA("a"), func(q *api.Query) { q.Limit = 0 }))
}
