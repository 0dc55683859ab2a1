package syntax_test

import (
	"strings"
	"testing"

	"cordon/api"
)

const (
	words = "all and as begin begins between by call case catch commit delete desc distinct else end except exists for from group having hide if in input insert int into intersect is join key left level levels limit not null on or order principal print proc raise rollback rows select set table text then true try false bool union update values var visible when where while channel skip"

	marks = "|| <> <= >= ( ) , ; . * + - / % = < > { } :"
)

// slot is a text in which a name must stand where the @ is, or else what is named beside.
type slot struct {
	r    read
	text string
	but  string
}

func slots() []slot {
	const operand = "null true false case exists ( - : 1 'a'"
	e, q, s, c := exprs(), queries(), scripts(), schemas()
	return []slot{
		{e, ":@", ""}, {e, "t.@", ""}, {e, "@.a", operand + " not"}, {e, "@", operand + " not"}, {e, "1 + @", operand}, {e, "exists (select a as @)", ""},
		{q, "select a as @", ""}, {q, "select a as x, b as @ from t", ""}, {q, "select a as x from @", "("}, {q, "select a as x from t as @", ""}, {q, "select a as x from t visible as @", ""},
		{q, "select a as x from t join @ on a", "("}, {q, "select a as x from t left join u as @ on a", ""}, {q, "select a as x from (select b as y) as @", ""},
		{s, "var @ int;", ""}, {s, "proc @ () { }", ""}, {s, "proc p(@ int) { }", ")"}, {s, "proc p(a int, @ int) { }", ""}, {s, "proc p() { var @ text; }", ""},
		{s, "set @ = 1;", ""}, {s, "for @ in select a as x { }", ""}, {s, "for a, @ in select a as x { }", ""}, {s, "print @ 1;", ""}, {s, "input @;", ""},
		{s, "insert into @ values (1);", ""}, {s, "insert into @ select a as x;", ""}, {s, "update @ set a = 1;", ""}, {s, "update t set @ = 1;", ""}, {s, "update t set a = 1, @ = 2;", ""},
		{s, "delete from @;", ""}, {s, "delete from @ where a;", ""}, {s, "call @();", ""}, {s, "call @(1);", ""},
		{c, "levels @;", ""}, {c, "levels a, @;", ""}, {c, "order @ < b;", ""}, {c, "order a < @;", ""}, {c, "order a < b < @;", ""},
		{c, "table @ rows l (a int l);", ""}, {c, "table t rows @ (a int l);", ""}, {c, "table t rows l (@ int l);", ""}, {c, "table t rows l (a int @);", "null"}, {c, "table t rows l (a int null @);", ""},
		{c, "table t rows l (a int l, @ int l);", ""}, {c, "table t rows l (a int l) key (@);", ""}, {c, "table t rows l (a int l) key (a, @);", ""}, {c, "table t rows l (a int l) hide @ when a;", ""},
		{c, "channel @ l;", ""}, {c, "channel c @;", ""}, {c, "principal @ l;", ""}, {c, "principal p @;", ""},
	}
}

// No word of the language is a name, nor is anything else.
func TestNoNames(t *testing.T) {
	for _, slot := range slots() {
		ahead, behind, _ := strings.Cut(slot.text, "@")
		for _, what := range strings.Fields(words + " " + marks + " 1 'a'") {
			if !strings.Contains(" "+slot.but+" ", " "+what+" ") {
				refuses(t, slot.r, ahead+" "+what+" "+behind, len(ahead)+1, api.ErrForm)
			}
		}
		refuses(t, slot.r, ahead+strings.Repeat("n", api.MaxName+1)+behind, len(ahead), api.ErrForm)
	}
}

// All names that are no words are names, the words of functions too, and words but for a letter.
func TestNames(t *testing.T) {
	names := []string{"count", "sum", "min", "max", "a", "Z", "_", "x9", "asc", "cross", "value", "row", strings.Repeat("n", api.MaxName)}
	for _, w := range strings.Fields(words) {
		names = append(names, w+"_", "_"+w, w+"1", strings.ToUpper(w), strings.ToUpper(w[:1])+w[1:])
	}
	for _, slot := range slots() {
		for _, name := range names {
			s := strings.Replace(slot.text, "@", name, 1)
			if _, at, err := slot.r.call(s); at != 0 || err != api.OK {
				t.Errorf("%s %q: %d %v, want it read", slot.r.name, s, at, err)
			}
		}
	}
}

// Words that say themselves in a text are no words there.
func TestTextsAreNoWords(t *testing.T) {
	for _, w := range strings.Fields(words + " " + marks) {
		quoted := "'" + w + "'"
		reads(t, exprs(), quoted, text(w))
		refuses(t, queries(), quoted, 0, api.ErrForm)
		refuses(t, scripts(), quoted, 0, api.ErrForm)
		refuses(t, schemas(), quoted, 0, api.ErrForm)
		refuses(t, exprs(), "a "+quoted+" b", 2, api.ErrForm)
		refuses(t, scripts(), "skip "+quoted, 5, api.ErrForm)
	}
}
