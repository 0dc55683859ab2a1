package tool_test

import (
	"testing"

	"cordon/api"
	"cordon/tool"
)

// The example of the chapter.
func TestExample(t *testing.T) {
	s := lines("#schema", "levels low; channel out low;", "#script", "print out 1;", "#fuel 9")
	j := api.Job{Schema: "levels low; channel out low;\n", Script: "print out 1;\n", Fuel: 9}
	tells(t, j, s)
	does(t, s, lines("accepted", "out 1", "end ok"))
}

// The examples of the document.
func TestDocumentExamples(t *testing.T) {
	const column = "levels low, high; order low < high; channel out low; channel log high; table t rows low (a int low, b int high);"
	does(t, lines("#schema", column, "#script", "print out (select max(b) as m from t);"), lines("flow 1:1: flow print", "rejected"))
	does(t, lines("#schema", column, "#script", "print log (select max(b) as m from t);", "#rows t", "1, 5", "#fuel 9"), lines("accepted", "log 5", "end ok", "table t", "1, 5"))
	const hides = "levels low, high; order low < high; channel out low; channel log high; table t rows low (a int low) key (a) hide high when a < 0;"
	job := func(script string) string {
		return lines("#schema", hides, "#script", script, "#rows t", "-1", "1", "#fuel 9")
	}
	does(t, job("print out (select count(*) as c from t visible);"), lines("accepted", "out 1", "end ok", "table t", "-1", "1"))
	does(t, job("print out (select count(*) as c from t);"), lines("flow 1:1: flow print", "rejected"))
	does(t, job("insert into t values (-1); print out 1;"), lines("flow 1:28: flow print", "rejected"))
	does(t, job("insert into t values (-1); print log 1;"), lines("accepted", "end key", "table t", "-1", "1"))
	does(t, job("try { insert into t values (-1); } catch { skip; } print out 1;"), lines("accepted", "out 1", "end ok", "table t", "-1", "1"))
}

// What README shows.
func TestReadmeExample(t *testing.T) {
	const s = `#schema
levels low, high; order low < high;
channel out low; channel log high;
table t rows low (a int low, b int null high) key (a);
principal ann low; principal bob high;
#script
var x int; var y int; input x;
insert into t values (:x, 7);
for y in select b as b from t { print log :y; }
print out (select count(*) as c from t);
#rows t
1, 5
2, null
#inputs
9
#fuel 100
#ask ann
select a as x from t order by x desc
#ask ann
select b as x from t
#ask bob
select b as x from t
`
	does(t, s, `accepted
log 5
log null
log 7
out 3
end ok
table t
1, 5
2, null
9, 7
ask ann
2
1
ask ann
error flow
ask bob
5
null
`)
	j, at, err := tool.Parse(s)
	check(t, "a Load", same(j.Loads, one(load("t", row(num(1), num(5)), row(num(2), api.Value{})))), true)
	check(t, "the rest", at == 0 && err == api.OK && same(j.Inputs, one(9)) && j.Fuel == 100 && len(j.Asks) == 3, true)
	check(t, "the last query", j.Asks[2], api.Ask{Who: "bob", Query: "select b as x from t\n"})
	tells(t, j, s)
	stops(t, "#schema\nlevels low;\n#fuel 01\n", 3, api.ErrForm)
	refused(t, "fuel below 0", api.Job{Fuel: -1}, api.ErrForm)
	does(t, "#schema\nlevels low; channel out high;\n", lines("schema 1:1: name"))
	does(t, lines("#schema", "levels low, high; order low < high;", "channel out low; table t rows high (a int high);", "#script", "print out 1;", "print out (select max(a) as m from t);"), lines("flow 2:1: flow print", "rejected"))
}

func TestSignatures(t *testing.T) {
	var _ func(string) (api.Job, int, api.Errno) = tool.Parse
	var _ func(api.Job) (string, api.Errno) = tool.Tell
	var _ func(string) (string, int, api.Errno) = tool.Run
}
