package app_test

import (
	"fmt"
	"slices"
	"strings"
	"testing"

	"cordon/api"
	"cordon/app"
)

// base is a schema with two levels, channels of both, and tables: one with a column that is high, one that is high as a whole, one with hidden rows, and one whose columns may not be null.
const base = "levels low, high; order low < high; channel out low; channel log high;" +
	"table t rows low (a int low, b int null high) key (a);" +
	"table s rows high (i int high);" +
	"table h rows low (k int low, v int null low) key (k) hide high when k < 0;" +
	"table n rows low (x int low);"

// refuses holds texts to the one note that they are refused with; there is no application then.
func refuses(t *testing.T, schemaText, scriptText, want string) {
	t.Helper()
	a, notes := app.New(schemaText, scriptText)
	if a != nil {
		t.Errorf("%s and %s: an application", cut(schemaText), cut(scriptText))
	}
	check(t, cut(schemaText)+" and "+cut(scriptText), notesTold(notes), want)
}

// wrong is a text that is refused, with ^ at the place that is told (none: 0), and its error.
type wrong struct {
	text string
	err  api.Errno
}

// wrongForms are texts of schemas that are wrong in their form.
func wrongForms() []wrong {
	deep := strings.Repeat("(", api.MaxNest-1)
	return []wrong{
		// at the start
		{"^x levels low;", api.ErrForm}, {"^; levels low;", api.ErrForm}, {"^1", api.ErrForm}, {"^low", api.ErrForm}, {"^print out 1;", api.ErrForm}, {"   ^'levels'", api.ErrForm}, {"^| levels low;", api.ErrForm}, {"^\x00levels low;", api.ErrForm}, {"^\xff", api.ErrForm},
		// in the midst
		{"levels low, ^; channel out low;", api.ErrForm}, {"levels low ^channel out low;", api.ErrForm}, {"levels low; channel low^; principal p low;", api.ErrForm}, {"levels low; order low ^> low; channel out low;", api.ErrForm}, {"levels low; channel out ^table; limit 1;", api.ErrForm},
		{"levels low; table t rows low (a ^low); channel out low;", api.ErrForm}, {"levels low; table t rows low (^) key (a);", api.ErrForm}, {"levels low; limit ^-1; channel out low;", api.ErrForm}, {"levels low; -- a remark\n ^$ channel out low;", api.ErrForm}, {"levels low; ^'no end", api.ErrForm},
		{"levels low; table t rows low (a int low) hide low when a = '^\x01'; limit 2;", api.ErrForm}, {"levels low, ^" + strings.Repeat("n", api.MaxName+1) + "; channel out low;", api.ErrForm},
		// at the end
		{"levels low^", api.ErrForm}, {"levels low; channel out low ^", api.ErrForm}, {"levels low; channel out low; ^x", api.ErrForm}, {"levels low; table t rows low (a int low) key (a^", api.ErrForm}, {"levels low; limit ^", api.ErrForm}, {"levels low; ^}", api.ErrForm}, {"levels low; -- a remark\nchannel^", api.ErrForm},
		// too much
		{"levels low; table t rows low (a int low) hide low when " + deep + "^a" + strings.Repeat(")", api.MaxNest-1) + ";", api.ErrDeep},
		{"^" + strings.Repeat(" ", api.MaxSource+1), api.ErrMany}, {"^levels low;" + strings.Repeat("\n", api.MaxSource), api.ErrMany},
		{"levels low; " + strings.Repeat("limit 1;", (api.MaxTokens-3)/3) + "^", api.ErrMany},
	}
}

// P24.1: syntax.Schema's error, with its place; whatever the script's text is.
func TestSchemaOfWrongForm(t *testing.T) {
	for _, w := range wrongForms() {
		text, at := marked(w.text)
		for _, other := range []string{"", "print out 1;", "print", "print nosuch 1;", "\xff"} {
			refuses(t, text, other, fmt.Sprintf("schema %d %s", at, errNames[w.err]))
		}
	}
}

// listed are n parts of a text, each with its number in the place of #.
func listed(n int, part string) string {
	return strings.Join(numbered(n, func(i int) string { return strings.ReplaceAll(part, "#", fmt.Sprint(i)) }), "")
}

// refusedSchemas are texts whose form is right and that schema.New refuses: with levels, with how many there are, and with the second table, channel or principal, so that it tells a number beside.
func refusedSchemas() []wrong {
	const two = "levels low, high; order low < high; table t rows low (a int low); "
	manyCols := strings.TrimSuffix(listed(api.MaxCols+1, "a# int low,"), ",")
	return []wrong{
		{"", api.ErrLevel}, {" -- nothing\n", api.ErrLevel}, {"channel out low;", api.ErrLevel}, {"limit 5;", api.ErrLevel}, {"order low < high;", api.ErrName},
		{"levels low, low;", api.ErrName}, {"levels low; order low < high;", api.ErrName}, {"levels low, high;", api.ErrLevel}, {"levels a, b; order a < b; order b < a;", api.ErrLevel}, {"levels low, a, b; order low < a; order low < b;", api.ErrLevel}, {"levels a, b, high; order a < high; order b < high;", api.ErrLevel},
		{"levels low" + listed(api.MaxLevels, ", l#") + ";", api.ErrMany}, {"levels low, high; " + listed(api.MaxEdges+1, "order low < high;"), api.ErrMany},
		{two + listed(api.MaxTables, "table t# rows low (a int low);"), api.ErrMany}, {two + listed(api.MaxTables+1, "channel c# low;"), api.ErrMany}, {two + listed(api.MaxTables+1, "principal p# low;"), api.ErrMany}, {two + fmt.Sprint("limit ", api.MaxRows+1, ";"), api.ErrMany}, {two + "limit 999999999999999999;", api.ErrMany},
		{two + "table u rows low (" + manyCols + ");", api.ErrMany}, {two + "table t rows low (a int low);", api.ErrName}, {two + "table u rows low (a int low, a int low);", api.ErrName}, {two + "table u rows none (a int low);", api.ErrName}, {two + "table u rows low (a int none);", api.ErrName},
		{two + "table u rows low (a int low) key (b);", api.ErrName}, {two + "table u rows low (a int low) key (a, a);", api.ErrName}, {two + "table u rows low (a int high) key (a);", api.ErrFlow}, {two + "table u rows low (a int low) hide none when a = 1;", api.ErrName}, {two + "table u rows high (a int low) hide low when a = 1;", api.ErrFlow},
		{two + "table u rows low (a int low) hide high when b = 1;", api.ErrShape}, {two + "table u rows low (a int low) hide high when a + 1 = 2;", api.ErrShape}, {two + "table u rows low (a int low) hide high when exists (select a as a from t);", api.ErrShape}, {two + "table u rows low (a int low) hide high when a;", api.ErrType}, {two + "table u rows low (a int low) hide high when a = 'x';", api.ErrType},
		{two + "table u rows low (a int low, b int high) hide high when b = 1;", api.ErrFlow}, {two + "channel out low; channel out high;", api.ErrName}, {two + "channel log low; channel out none;", api.ErrName}, {two + "principal p low; principal p low;", api.ErrName}, {two + "principal p low; principal q none;", api.ErrName},
	}
}

// P24.1: schema.New's error, with the place 0.
func TestSchemaRefused(t *testing.T) {
	came := map[api.Errno]int{}
	for _, w := range refusedSchemas() {
		for _, other := range []string{"", "print out 1;", "print", "print nosuch 1;", "\xff"} {
			refuses(t, w.text, other, "schema 0 "+errNames[w.err])
		}
		came[w.err]++
	}
	enough(t, came, 2, api.ErrMany, api.ErrName, api.ErrLevel, api.ErrType, api.ErrFlow, api.ErrShape)
}

// wrongScripts are texts of scripts that are wrong in their form.
func wrongScripts() []wrong {
	deep := strings.Repeat("(", api.MaxNest-2)
	return []wrong{
		{"^x", api.ErrForm}, {"^; skip;", api.ErrForm}, {"^levels low;", api.ErrForm}, {" ^1", api.ErrForm}, {"^select a as x from t;", api.ErrForm}, {"^\x00", api.ErrForm}, {"^| skip;", api.ErrForm},
		{"print out ^; skip;", api.ErrForm}, {"skip ^skip;", api.ErrForm}, {"var x int; set x ^< 1; skip;", api.ErrForm}, {"skip; ^var x int;", api.ErrForm}, {"if true { skip; } ^catch { skip; }", api.ErrForm}, {"print out 1 + ^* 2; skip;", api.ErrForm}, {"skip; ^'no end", api.ErrForm}, {"skip; print out '^\x02'; skip;", api.ErrForm},
		{"set x = sum(^*); skip;", api.ErrForm}, {"call p(1 ^2);", api.ErrForm}, {"proc p(a ^b) { } skip;", api.ErrForm}, {"try { skip; } ^skip;", api.ErrForm}, {"-- first\nskip; ^$", api.ErrForm},
		{"skip^", api.ErrForm}, {"skip; print out 1 ^", api.ErrForm}, {"skip; ^}", api.ErrForm}, {"while true { skip;^", api.ErrForm}, {"try { } catch {^", api.ErrForm}, {"proc p() { skip; ^", api.ErrForm},
		{"print out " + deep + "(^1);", api.ErrDeep}, {"print out -" + deep + "^1;", api.ErrDeep}, {strings.Repeat("while true {", api.MaxNest-1) + "while ^true {", api.ErrDeep},
		{"^" + strings.Repeat("\n", api.MaxSource+1), api.ErrMany}, {strings.Repeat("skip;", api.MaxTokens/2) + "^", api.ErrMany},
	}
}

// P24.1: syntax.Script's error, with its place.
func TestScriptOfWrongForm(t *testing.T) {
	for _, w := range wrongScripts() {
		text, at := marked(w.text)
		refuses(t, base, text, fmt.Sprintf("script %d %s", at, errNames[w.err]))
		refuses(t, "levels low;", text, fmt.Sprintf("script %d %s", at, errNames[w.err]))
	}
}

// refusedScripts are texts whose form is right and that script.Compile refuses.
func refusedScripts() []wrong {
	return []wrong{
		// without a place: what layer 7 refuses, and names that stand twice
		{"print out " + strings.Repeat("1 + ", api.MaxNest) + "1;", api.ErrDeep}, {strings.Repeat("while true { ", 38) + strings.Repeat("skip;", 900) + strings.Repeat("}", 38), api.ErrMany},
		{"skip; print out " + strings.Repeat("1 + ", api.MaxNest) + "1; print nosuch 1;", api.ErrDeep}, {"var x int; var x int;", api.ErrName}, {"var x int; var x bool; set y = 1;", api.ErrName}, {"proc p() { } proc p() { } skip;", api.ErrName}, {"proc p(a int, a int) { } skip;", api.ErrName}, {"proc p(a int) { var a int; } skip;", api.ErrName},
		// with the place of a statement
		{"^set x = 1;", api.ErrName}, {"skip; ^set x = 1;", api.ErrName}, {"var x int; skip; ^set x = 'a';", api.ErrType}, {"print out 1; ^print nosuch 1;", api.ErrName}, {"print out 1;\n  ^print out :x; print nosuch 1;", api.ErrName}, {"skip; ^print out 1 || 'a';", api.ErrType},
		{"var x int; ^if :x { skip; } set y = 1;", api.ErrType}, {"var x int; if true { skip; ^set x = true; } set y = 1;", api.ErrType}, {"if true { } else { skip; ^call p(); }", api.ErrName}, {"while true { ^while 1 { } }", api.ErrType}, {"try { skip; } catch { skip; ^insert into nosuch values (1); }", api.ErrName},
		{"var x int; ^for x in select a as a, b as b from t { }", api.ErrShape}, {"var x text; skip; ^for x in select a as a from t { }", api.ErrType}, {"var x int; ^for x, x in select a as a, b as b from t { }", api.ErrName}, {"var x bool; skip; ^input x;", api.ErrType}, {"skip; ^input y;", api.ErrName},
		{"skip; ^insert into t values (1);", api.ErrShape}, {"skip; ^insert into t values (1, 'a');", api.ErrType}, {"^insert into t select a as a from t;", api.ErrShape}, {"skip; ^update t set a = 1;", api.ErrShape}, {"^update t set b = true;", api.ErrType}, {"skip; ^update t set z = 1;", api.ErrName}, {"skip; ^update t set b = 1 where b;", api.ErrType}, {"skip; ^delete from nosuch;", api.ErrName}, {"skip; ^delete from t where 1;", api.ErrType}, {"skip; ^update h set v = 1, k = 2;", api.ErrShape},
		{"proc p(a int) { skip; } skip; ^call p();", api.ErrShape}, {"proc p(a int) { skip; } skip; ^call p('a');", api.ErrType}, {"proc p(a int) { ^set b = 1; } set x = 1;", api.ErrName}, {"var x int; proc p() { skip; ^set x = 1; } set x = 'a';", api.ErrName}, {"proc p() { if true { raise; ^set x = 1; } } skip;", api.ErrName},
	}
}

// P24.1: script.Compile's error, with its place.
func TestScriptRefused(t *testing.T) {
	came := map[api.Errno]int{}
	for _, w := range refusedScripts() {
		text, at := marked(w.text)
		refuses(t, base, text, fmt.Sprintf("script %d %s", at, errNames[w.err]))
		came[w.err]++
	}
	enough(t, came, 2, api.ErrDeep, api.ErrName, api.ErrType, api.ErrShape)
	enough(t, came, 1, api.ErrMany)
}

// Both texts wrong at once: of the schema's text its form, then what schema.New says, then of the script's text its form, then what script.Compile says.
func TestBothWrong(t *testing.T) {
	for _, s := range wrongForms() {
		text, at := marked(s.text)
		for _, r := range slices.Concat(wrongScripts(), refusedScripts()) {
			other, _ := marked(r.text)
			refuses(t, text, other, fmt.Sprintf("schema %d %s", at, errNames[s.err]))
		}
	}
	for _, s := range refusedSchemas() {
		for _, r := range slices.Concat(wrongScripts(), refusedScripts()) {
			other, _ := marked(r.text)
			refuses(t, s.text, other, "schema 0 "+errNames[s.err])
		}
	}
	for _, text := range []string{"levels low, low; ^x", "order a < b; channel out ^;", "levels low; limit 999; table t rows low (^)", "levels low; table t rows none (a int none)^"} { // within one text the form is told first, too
		text, at := marked(text)
		refuses(t, text, "print", fmt.Sprintf("schema %d ErrForm", at))
	}
	for _, text := range []string{"set nosuch = 1; ^x", "var x int; var x int; ^;", "print nosuch 1; skip^"} {
		text, at := marked(text)
		refuses(t, base, text, fmt.Sprintf("script %d ErrForm", at))
	}
}

// Which text is which: a script as a schema, and the other way round.
func TestTurnedRound(t *testing.T) {
	refuses(t, "print out 1;", "levels low;", "schema 0 ErrForm")
	refuses(t, base, base, "script 0 ErrForm")
	refuses(t, "skip;", "skip;", "schema 0 ErrForm")
}

func TestEmptyTexts(t *testing.T) {
	refuses(t, "", "", "schema 0 ErrLevel")
	refuses(t, "", "skip;", "schema 0 ErrLevel")
	refuses(t, "", "x", "schema 0 ErrLevel")
	refuses(t, " ", "", "schema 0 ErrLevel")
	for _, text := range []string{"", " ", "\n\t\r", "-- nothing", "-- nothing\n"} {
		for _, of := range []string{"levels low;", base} {
			a := accepted(t, of, text)
			d, told, err := a.Run(nil, nil, 0)
			check(t, text, err, api.OK)
			check(t, text, len(told), 0)
			check(t, text, d.Catalog() == a.Catalog() && d != nil, true)
		}
	}
}

// notesAt is a script's text, and what its notes must be: in the text stands a ^ for each of them, in front of its statement, and whys are in the same order.
func notesAt(text string, whys ...string) (string, string) {
	var out []string
	for _, why := range whys {
		at := strings.Index(text, "^")
		text = strings.Replace(text, "^", "", 1)
		out = append(out, fmt.Sprintf("flow %d ErrFlow %s", at, why))
	}
	return text, strings.Join(out, ", ")
}

// P24.1: of each Diag, in order, a note of Part 2, with its place, ErrFlow and its Why.
func TestNotesOfFlow(t *testing.T) {
	const x = "var x int; "
	const each = x + "for x in select i as i from s { " // what stands in it is high
	for _, c := range []struct {
		text string
		whys string
	}{
		{"", ""}, {"print out 1;", ""}, {"print log 1; print out 'x'; begin; rollback; raise; print out 2;", ""}, {each + "print log :x; } print out 1;", ""}, {x + "input x; print out :x; insert into t values (1, 2); insert into s values (:x);", ""},
		// one
		{each + "^print out 1; }", "print"}, {"^print out (select b as b from t limit 1);", "print"}, {"print out 1; print log 2; ^print out exists (select i as i from s); print out 3;", "print"},
		{"^update h set v = (select b as b from t limit 1);", "column"}, {"update n set x = 1; ^update n set x = (select count(*) as c from s); skip;", "column"}, {each + "^^insert into h values (1, :x); }", "rows column"},
		{each + "^insert into n values (1); }", "rows"}, {"^delete from t where b > 0;", "rows"}, {"^^insert into n select i as x from s;", "rows column"}, {"^insert into h select a as k, a as v from t;", "rows"},
		{each + "^begin; }", "saved"}, {each + "skip; ^commit; }", "saved"}, {"if exists (select i as i from s) { ^rollback; }", "saved"}, {each + "^input x; }", "input"}, {"var y int; " + each + "skip; ^input y; } print log :y;", "input"},
		// several, in order
		{each + "^print out 1; skip; ^print out 2; ^print out 3; }", "print print print"}, {each + "^input x; ^begin; ^insert into n values (1); ^print out :x; print log :x; }", "input saved rows print"}, {each + "^print out 1; ^^^insert into h values (:x, :x); ^rollback; ^input x; }", "print rows column column saved input"},
		{"try { insert into h values (1, 1); } catch { ^print out 1; } print out 2; insert into h values (2, 2); ^print out 3; print log 4;", "print print"},
		{"proc p() { ^print out 1; } proc q(a int) { ^print out :a; } if exists (select i as i from s) { call p(); } call q((select b as b from t limit 1)); print out 2; call q((select i as i from s)); ^print out 3;", "print print print"},
		{each + "if true { ^print out 1; } else { ^begin; } while :x > 0 { ^input x; } try { ^print out :x; } catch { ^commit; } }", "print saved input print saved"},
	} {
		whys := strings.Fields(c.whys)
		text, want := notesAt(c.text, whys...)
		a, notes := app.New(base, text)
		check(t, text, notesTold(notes), want)
		if a == nil {
			t.Fatalf("%s: no application", text)
		}
		check(t, text, a.Accepted(), len(whys) == 0)
	}
}
