package tool_test

import (
	"fmt"
	"strings"
	"testing"

	"cordon/api"
)

// base is a schema: a column of t is high, so is all of s, and h hides rows at high.
const base = `levels low, high; order low < high;
channel out low; channel log high;
table t rows low (a int low, b int null high) key (a);
table s rows high (i int high);
table h rows low (k int low, v text null low) key (k) hide high when k < 0;
principal ann low; principal bob high;
limit 4;
`

// P25.3

// ofSchema is a job of the schema base with a script, and then other lines.
func ofSchema(script string, others ...string) string {
	return lines(append(one("#schema", strings.TrimSuffix(base, "\n"), "#script", script), others...)...)
}

// Parse's error is told, and its line, with nothing else.
func TestRunRefused(t *testing.T) {
	many := strings.Repeat("1, ", api.MaxCols) + "1"
	stops(t, ofSchema("print out 1;", "#fuel 01"), 11, api.ErrForm)
	stops(t, ofSchema("print out 1;", "#rows t", "1, 2", many), 13, api.ErrMany)
	stops(t, ofSchema("print nosuch 1;", "#rows t", "1 2"), 12, api.ErrForm)
	stops(t, ofSchema("print out 1;", "#ask ann", "select 1 as x", "#nosuch"), 13, api.ErrForm)
	stops(t, "x\n"+ofSchema("print out 1;"), 1, api.ErrForm)
	stops(t, ofSchema("print out 1;")+strings.Repeat("\n", api.MaxSource), 0, api.ErrMany)
}

// Of a schema or a script that is wrong there is one line, and no more, whatever else is in the job.
func TestRunWithoutApplication(t *testing.T) {
	for _, x := range []struct{ schema, script, want string }{
		{"", "", "schema 1:1: level"},
		{"levels low", "", "schema 2:1: form"},
		{"levels low;\n\nchannel out low low;", "", "schema 3:17: form"},
		{"levels low, low;", "", "schema 1:1: name"},
		{"levels low;\nchannel out high;", "print", "schema 1:1: name"},
		{"levels a, b;", "", "schema 1:1: level"},
		{"levels low;\ntable t rows low (a int low, a int low);", "", "schema 1:1: name"},
		{"levels low, high; order low < high;\ntable t rows low (a int high) key (a);", "", "schema 1:1: flow"},
		{"levels low;\n\ntable t rows low (a int low) hide low when " + strings.Repeat("not ", 40) + "true;", "", "schema 3:200: deep"},
		{"levels low;\n" + strings.Repeat(";", 10), "", "schema 2:1: form"},
		{"levels low;", "print out 1;", "script 1:1: name"},
		{"levels low; channel out low;", "print out 1;\n\n  print out", "script 4:1: form"},
		{"levels low; channel out low;", "print out 1;\n\n  print out 'a' + 1;", "script 3:3: type"},
		{"levels low; channel out low;", "print out 1; print nosuch 2;", "script 1:14: name"},
		{"levels low; channel out low;", "skip;\nprint out " + strings.Repeat("- ", 41) + "1;", "script 2:89: deep"},
		{"levels low; channel out low;", "skip;\n  print out count(*);", "script 2:3: shape"},
		{"levels low;", strings.Repeat("skip;", 3001), "script 1:15001: many"},
	} {
		j := api.Job{Schema: x.schema + "\n", Script: x.script + "\n"}
		s := lines("#schema", x.schema, "#script", x.script)
		does(t, s, x.want+"\n")
		for _, behind := range []string{"#fuel 9\n", "#rows nosuch\n1\n", "#rows t\n1\n#ask ann\nselect 1 as x\n", "#ask nobody\n"} {
			does(t, s+behind, x.want+"\n")
		}
		tells(t, j, s+"#fuel 0\n")
	}
	does(t, "", "schema 1:1: level\n")
	does(t, "#schema\nlevels low;\n", lines("accepted", "end ok"))
	does(t, "#schema\nlevels low;", lines("accepted", "end ok"))
	does(t, "#script\nskip;\n#ask ann\nselect 1 as x\n", "schema 1:1: level\n")
}

// What may not flow: a line of each note, and it is rejected; nothing is run.
func TestRunRejected(t *testing.T) {
	for script, want := range map[string][]string{
		"print out (select max(b) as m from t);":                                         {"flow 1:1: flow print"},
		"skip;\n\n  print out (select max(i) as m from s);":                              {"flow 3:3: flow print"},
		"print out 1; insert into t select 1 as a, 2 as b from s;\nprint out 2;":         {"flow 1:14: flow rows", "flow 2:1: flow print"},
		"update h set v = 'a' where exists (select i as i from s);":                      {"flow 1:1: flow column"},
		"if exists (select i as i from s) {\nbegin; }":                                   {"flow 2:1: flow saved"},
		"delete from h;\nprint out (select count(*) as c from h);":                       {"flow 2:1: flow print"},
		"insert into s values (1); insert into h values (-1, null); print out 1;":        {"flow 1:60: flow print"},
		"insert into h values (1, null);\ninsert into t select i as a, i as b from s;\n": {"flow 2:1: flow rows", "flow 2:1: flow column"},
	} {
		s := ofSchema(strings.TrimSuffix(script, "\n"), "#fuel 100", "#rows t", "1, 2", "#rows s", "7", "#inputs", "1")
		does(t, s, lines(append(want, "rejected")...))
	}
	const input = "var x int;\nif exists (select i as i from s) { input x; }"
	does(t, ofSchema(input, "#fuel 9"), lines("flow 2:36: flow input", "rejected"))
}

// A Load whose table is not there ends it, whether it is accepted or not, with rows or without, and whatever stands around it.
func TestRunNoTable(t *testing.T) {
	const right, wrong = "print out 1;", "print out (select max(b) as m from t);"
	for _, loads := range [][]string{
		{"#rows nosuch"}, {"#rows nosuch", "1"}, {"#rows t", "1, 2", "#rows nosuch", "1"}, {"#rows nosuch", "1", "#rows t", "1, 2"}, {"#rows T", "1, 2"}, {"#rows out", "1"}, {"#rows ann"}, {"#rows 7"}, {"#rows t", "#rows t", "'does not fit'", "#rows u"}, {"#rows nosuch", "#rows nosuch"}, {"#rows select"},
	} {
		for _, others := range [][]string{nil, {"#fuel 9"}, {"#fuel 9", "#ask ann", "select 1 as x"}, {"#ask nobody", "x"}} {
			does(t, ofSchema(right, append(loads, others...)...), lines("accepted", "error name"))
			does(t, ofSchema(wrong, append(loads, others...)...), lines("flow 1:1: flow print", "rejected", "error name"))
		}
	}
}

// told is what a job of base that is accepted tells: some lines, and then the rows of its tables.
func told(ahead []string, t, s, h []string) string {
	return lines(append(one("accepted"), append(ahead, rowsOfBase(t, s, h)...)...)...)
}

func rowsOfBase(t, s, h []string) []string {
	out := append(one("table t"), t...)
	out = append(append(out, "table s"), s...)
	return append(append(out, "table h"), h...)
}

func TestRunEnds(t *testing.T) {
	for _, x := range []struct {
		script string
		want   []string
	}{
		{"", one("end ok")},
		{"skip;", one("end ok")},
		{"print out 1; print log 'it''s'; print out null;", one("out 1", "log 'it''s'", "out null", "end ok")},
		{"print log true; print out -5; print out 'a\nb';", one("log true", "out -5", `out 'a\0ab'`, "end ok")},
		{"print out 1; raise; print out 2;", one("out 1", "end raise")},
		{"print out 1; print out 1 / 0;", one("out 1", "end zero")},
		{"print out 999999999999999999 * 99;", one("end overflow")},
		{"insert into t values (1, null); insert into t values (1, 2);", one("end key")},
		{"insert into s values (null);", one("end null")},
		{"try { raise; } catch { print out 7; }", one("out 7", "end ok")},
		{"while true { print out 1; }", one("out 1", "out 1", "out 1", "out 1", "end fuel")},
		{"var x int; while true { set x = 1; }", one("end fuel")},
		{"proc p() { print out 3; call p(); } call p();", one("out 3", "out 3", "out 3", "out 3", "end fuel")},
		{"insert into s values (1); insert into s values (2); insert into s values (3); insert into s values (4); print log 5; insert into s values (6);", one("log 5", "end rows")},
	} {
		var ofT, ofS []string // what is in tables then
		switch x.want[len(x.want)-1] {
		case "end key":
			ofT = one("1, null")
		case "end rows":
			ofS = one("1", "2", "3", "4")
		}
		does(t, ofSchema(x.script, "#fuel 9"), told(x.want, ofT, ofS, nil))
	}
	double := "var x text; set x = 'aaaaaaaaaa'; while true { set x = :x || :x; }"
	does(t, ofSchema(double, "#fuel 100"), told(one("end many"), nil, nil, nil))
	does(t, ofSchema("print log (select i as i from s);", "#rows s", "1", "2", "#fuel 5"), told(one("end single"), nil, one("1", "2"), nil))
	does(t, ofSchema("print out 1;"), told(one("end fuel"), nil, nil, nil)) // without #fuel there is none
	does(t, ofSchema("print out 1;", "#fuel 0"), told(one("end fuel"), nil, nil, nil))
	does(t, ofSchema("print out 1;", "#fuel 1"), told(one("out 1", "end ok"), nil, nil, nil))
	does(t, ofSchema("print out 1;", "#fuel 5", "#fuel 0"), told(one("end fuel"), nil, nil, nil))
}

// More than MaxFuel is as MaxFuel.
func TestRunMostFuel(t *testing.T) {
	script := "var x int; set x = 0; while true { set x = :x + 1; print out :x; }"
	want := told(append(numbered(1666, func(i int) string { return fmt.Sprint("out ", i+1) }), "end fuel"), nil, nil, nil)
	for _, fuel := range one("5000", "5001", "999999999") {
		does(t, ofSchema(script, "#fuel "+fuel), want)
	}
}

// Of each table the rows of all its Loads, in order, and those behind them that the run put there.
func TestRunTables(t *testing.T) {
	does(t, ofSchema("skip;", "#rows t", "1, 2", "#fuel 9"), told(one("end ok"), one("1, 2"), nil, nil))
	does(t, ofSchema("skip;", "#rows h", "2, 'b'", "#rows t", "1, 2", "#rows h", "#rows h", "1, null", "-1, 'it''s\\0a'", "#rows t", "0, null", "#fuel 9"),
		told(one("end ok"), one("1, 2", "0, null"), nil, one("2, 'b'", "1, null", `-1, 'it''s\0a'`)))
	does(t, ofSchema("delete from t where a = 1; insert into t values (5, 5); update h set v = 'x'; print out 1;", "#rows t", "1, 1", "#rows h", "1, null", "#rows t", "2, 2", "#fuel 9"),
		told(one("out 1", "end ok"), one("2, 2", "5, 5"), nil, one("1, 'x'")))
	does(t, ofSchema("delete from t; delete from h; delete from s;", "#rows t", "1, 1", "#rows s", "1", "#rows h", "1, null", "#fuel 9"), told(one("end ok"), nil, nil, nil))
	does(t, ofSchema("insert into t values (3, 3); raise;", "#rows t", "1, 1", "#fuel 9"), told(one("end raise"), one("1, 1", "3, 3"), nil, nil))
	does(t, ofSchema("insert into t values (3, 3); insert into t values (4, 4);", "#rows t", "1, 1", "#fuel 1"), told(one("end fuel"), one("1, 1", "3, 3"), nil, nil))
	does(t, ofSchema("begin; delete from t; rollback;", "#rows t", "1, 1", "#fuel 9"), told(one("end ok"), one("1, 1"), nil, nil))
	does(t, lines("#schema", "levels low; channel out low;", "#script", "print out 1;", "#fuel 9"), lines("accepted", "out 1", "end ok")) // a schema without tables
}

// Rows that do not fit end it ahead of the first statement: no tables are told, nor is anything else.
func TestRunRowsThatDoNotFit(t *testing.T) {
	for _, x := range []struct {
		loads []string
		want  string
	}{
		{one("#rows t", "1"), "shape"}, {one("#rows t", "1, 2, 3"), "shape"}, {one("#rows t", ""), "shape"}, {one("#rows t", "1, 2", "", "'a'"), "shape"}, {one("#rows t", "'a', 2"), "type"}, {one("#rows t", "1, true"), "type"}, {one("#rows t", "null, 2"), "null"}, {one("#rows t", "1, 1", "1, 2"), "key"}, {one("#rows t", "1, 1", "#rows t", "1, 1"), "key"},
		{one("#rows s", "1", "1", "1", "1", "1"), "rows"}, {one("#rows s", "1", "2", "#rows t", "#rows s", "3", "4", "5"), "rows"}, {one("#rows s", "null"), "null"}, {one("#rows s", "'a'"), "type"},
		{one("#rows t", "1, 1", "1, 1", "#rows s", "'a'"), "key"}, {one("#rows s", "'a'", "#rows t", "1, 1", "1, 1"), "key"}, // table by table, not Load by Load
		{one("#rows h", "1, 'a'", "-1, 'b'", "1, 'c'"), "key"}, {one("#rows h", "-1, 'a'", "-1, 'b'"), "key"}, {one("#rows t", "1, 1", "1, 1", "1"), "shape"}, {one("#rows s", "1", "1", "1", "1", "'a'"), "type"},
	} {
		does(t, ofSchema("print out 1;", append(x.loads, "#fuel 9")...), lines("accepted", "end "+x.want))
		asked := append(x.loads, "#fuel 9", "#ask ann", "select 1 as x", "#ask nobody", "select 1 as x")
		does(t, ofSchema("print out 1;", asked...), lines("accepted", "end "+x.want, "ask ann", "error "+x.want, "ask nobody", "error "+x.want))
		does(t, ofSchema("print out (select max(b) as m from t);", asked...), lines("flow 1:1: flow print", "rejected", "ask ann", "error "+x.want, "ask nobody", "error "+x.want))
	}
	does(t, ofSchema("skip;", "#rows h", "1, 'a'", "2, 'b'", "-1, null", "-2, null", "#fuel 9"), told(one("end ok"), nil, nil, one("1, 'a'", "2, 'b'", "-1, null", "-2, null")))
}

func TestRunInputs(t *testing.T) {
	script := "var x int; input x; print out :x; input x; print out :x; input x; print out :x;"
	does(t, ofSchema(script, "#inputs", "7", "#fuel 9", "#inputs", "-8"), told(one("out 7", "out -8", "out null", "end ok"), nil, nil, nil))
	does(t, ofSchema(script, "#fuel 9"), told(one("out null", "out null", "out null", "end ok"), nil, nil, nil))
	does(t, ofSchema(script, "#fuel 9", "#inputs", "999999999", "-999999999", "0", "5"), told(one("out 999999999", "out -999999999", "out 0", "end ok"), nil, nil, nil))
}

// rowsToAsk are the Loads of what principals are asked of.
func rowsToAsk() []string {
	return one("#rows t", "1, 5", "2, null", "#rows s", "7", "#rows h", "1, 'a'", "-1, 'b'")
}

// Asks: the rows of the answer, or the error of the first step that has one.
func TestRunAsks(t *testing.T) {
	for _, x := range []struct {
		who, query string
		want       []string
	}{
		// answers
		{"ann", "select 1 as x", one("1")}, {"ann", "select a as x from t", one("1", "2")}, {"ann", "select a as x, -a as y, 'it''s' as z from t where a > 1", one("2, -2, 'it''s'")}, {"ann", "select a as x from t where a > 9", nil}, {"ann", "select k as x, v as y from h visible", one("1, 'a'")}, {"bob", "select k as x, v as y from h", one("1, 'a'", "-1, 'b'")}, {"bob", "select b as x from t", one("5", "null")}, {"bob", "select i as x from s", one("7")}, {"bob", "select count(*) as c from s union all select a as c from t", one("1", "1", "2")}, {"bob", "select a as x\nfrom t\n\norder by x desc -- a remark", one("2", "1")}, {"bob", "select null as x, true as y, '\n' as z", one(`null, true, '\0a'`)},
		// of syntax.Query
		{"ann", "", one("error form")}, {"ann", "select", one("error form")}, {"ann", "select 1 as x;", one("error form")}, {"ann", "print out 1;", one("error form")}, {"ann", "select $ as x", one("error form")}, {"ann", "select " + strings.Repeat("- ", 41) + "1 as x", one("error deep")}, {"ann", "select " + strings.Repeat("1+", 3000) + "1 as x", one("error many")},
		// of algebra.Plan
		{"ann", "select a as x from nosuch", one("error name")}, {"ann", "select nosuch as x from t", one("error name")}, {"ann", "select 'a' + 1 as x", one("error type")}, {"ann", "select a as x from t having a > 1", one("error form")}, {"ann", "select a as x, count(*) as n from t", one("error shape")}, {"ann", "select :x as x", one("error name")}, {"bob", "select a as x from t where :y", one("error name")},
		{"ann", "select (select a as x, b as y from t) as x", one("error shape")}, {"ann", "select a as a from t union select a as a, a as b from t", one("error type")}, {"ann", "select a as x from t join t on true", one("error name")}, {"ann", "select " + strings.Repeat("1 as x, ", api.MaxCols) + "1 as x", one("error many")},
		// of audit.Ask
		{"nobody", "select 1 as x", one("error name")}, {"out", "select 1 as x", one("error name")}, {"low", "select 1 as x", one("error name")}, {"Ann", "select 1 as x", one("error name")}, {"ann", "select b as x from t", one("error flow")}, {"ann", "select i as x from s", one("error flow")}, {"ann", "select k as x from h", one("error flow")}, {"ann", "select 1 / b as x from t", one("error flow")},
		{"ann", "select 1 / 0 as x", one("error zero")}, {"bob", "select 7 / i - 1 as x from s where 1 / (i - 7) > 0", one("error zero")}, {"bob", "select (select a as x from t) as x", one("error single")}, {"ann", "select a * 999999999999999999 * 99 as x from t", one("error overflow")}, {"bob", "select '" + strings.Repeat("x", 600) + "' || '" + strings.Repeat("x", 600) + "' as x", one("error many")},
		// which comes first
		{"nobody", "select", one("error form")}, {"nobody", "select a as x, count(*) as n from t", one("error shape")}, {"nobody", "select b as x from t", one("error name")}, {"nobody", "select 1 / 0 as x", one("error name")}, {"ann", "select 1 / 0 as x, 'a' + 1 as y", one("error type")}, {"ann", "select b / 0 as x from t", one("error flow")},
	} {
		asked := append(rowsToAsk(), "#ask "+x.who)
		if x.query != "" {
			asked = append(asked, x.query)
		}
		answer := append(one("ask "+x.who), x.want...)
		does(t, ofSchema("print out 1;", append(one("#fuel 9"), asked...)...), told(one("out 1", "end ok"), one("1, 5", "2, null"), one("7"), append(one("1, 'a'", "-1, 'b'"), answer...)))
		does(t, ofSchema("print out (select max(b) as m from t);", asked...), lines(append(one("flow 1:1: flow print", "rejected"), answer...)...))
	}
}

// What is wrong with the query comes ahead of what is wrong with the rows, and that ahead of what audit.Ask tells.
func TestRunAskOrder(t *testing.T) {
	asks := one("#ask nobody", "select", "#ask nobody", "select nosuch as x", "#ask nobody", "select 1 as x", "#ask ann", "select b as x from t", "#ask ann", "select 1 / 0 as x", "#ask ann", "select 1 as x", "#ask bob", "select "+strings.Repeat("(", 41))
	answers := one("ask nobody", "error form", "ask nobody", "error name", "ask nobody", "error key", "ask ann", "error key", "ask ann", "error key", "ask ann", "error key", "ask bob", "error deep")
	does(t, ofSchema("print out 1;", append(one("#rows t", "1, 1", "1, 1", "#fuel 9"), asks...)...), lines(append(one("accepted", "end key"), answers...)...))
}

// Several asks, in order, each answered for itself: of one that has no answer the others know nothing.
func TestRunSeveralAsks(t *testing.T) {
	asks := one("#ask bob", "select b as x from t", "#ask ann", "select b as x from t", "#ask ann", "#ask bob", "select b as x from t", "#ask ann", "select a as x from t where a > 9", "#ask ann", "select a as x from t")
	answers := one("ask bob", "5", "null", "ask ann", "error flow", "ask ann", "error form", "ask bob", "5", "null", "ask ann", "ask ann", "1", "2")
	does(t, ofSchema("print out (select max(b) as m from t);", append(rowsToAsk(), asks...)...), lines(append(one("flow 1:1: flow print", "rejected"), answers...)...))
}

// Answers are of the rows of the Loads, wherever these stand in the text: not of what a run made of them.
func TestRunAsksOfLoads(t *testing.T) {
	script := "insert into t values (8, 8); update t set b = 0; delete from h; insert into s values (1);"
	want := told(one("end ok"), one("1, 0", "2, 0", "8, 0"), one("7", "1"), one("ask ann", "1", "2", "ask bob", "2, 1, 2", "ask ann", "1, 'a'"))
	asks := one("#ask ann", "select a as x from t", "#ask bob", "select (select count(*) as c from t) as x, (select count(*) as c from s) as y, (select count(*) as c from h) as z", "#ask ann", "select k as x, v as y from h visible")
	does(t, ofSchema(script, append(append(rowsToAsk(), "#fuel 9"), asks...)...), want)
	does(t, ofSchema(script, append(append(asks, "#fuel 9"), rowsToAsk()...)...), want)
	none := told(one("end ok"), one("8, 0"), one("1"), one("ask ann", "ask bob", "0, 0, 0", "ask ann"))
	does(t, ofSchema(script, append(one("#fuel 9"), asks...)...), none)
}

// A job that is done twice, and again behind others, comes to the same.
func TestRunAgain(t *testing.T) {
	jobs := one(
		ofSchema("insert into t values (3, 3); print out 1;", append(rowsToAsk(), "#fuel 9", "#ask bob", "select b as x from t")...),
		ofSchema("print out (select max(b) as m from t);", append(rowsToAsk(), "#ask ann", "select a as x from t")...),
		ofSchema("raise;"), ofSchema("raise; raise", "#fuel 9"), ofSchema("skip;", "#rows nosuch"), "", "x", "#",
	)
	first := map[string]answered{}
	for range 3 {
		for _, s := range jobs {
			got := runOf(s)
			if was, ok := first[s]; ok {
				check(t, s, got, was)
			}
			first[s] = got
		}
	}
}
