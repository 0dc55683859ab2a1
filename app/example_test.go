package app_test

import (
	"testing"

	"cordon/api"
	"cordon/app"
	"cordon/schema"
	"cordon/store"
	"cordon/value"
)

// The example of the chapter.
func TestExample(t *testing.T) {
	a, notes := app.New("levels low; channel out low;", "print out 1;")
	check(t, "notes", len(notes), 0)
	check(t, "accepted", a.Accepted(), true)
	check(t, "a run", answerOf(a.Run(nil, nil, 9)).String(), "1 OK []")
}

// What README shows.
func TestReadmeExample(t *testing.T) {
	const schemaText = "levels low, high; order low < high; channel out low; channel log high;" +
		"table t rows low (a int low, b int high) key (a);"
	a, notes := app.New(schemaText, "var x int; for x in select b as b from t { print log :x; } insert into t values (9, 9); print out 1;")
	check(t, "accepted", a.Accepted() && len(notes) == 0, true)
	rows := [][][]api.Value{{{value.Int(1), value.Int(5)}}}
	check(t, "a run", answerOf(a.Run(rows, nil, 100)).String(), "1:5 1 OK [1 5; 9 9]")
	check(t, "rows", tablesTold(rows), "1 5")
	check(t, "a list too many", answerOf(a.Run(append(rows, nil), nil, 100)).String(), "ErrArg")
	a, notes = app.New(schemaText, "var x int; for x in select b as b from t { print out :x; }")
	check(t, "what may not flow", notesTold(notes), "flow 43 ErrFlow print")
	check(t, "x", a.Verdict().Vars[0][0], 1)
	check(t, "not accepted", answerOf(a.Run(rows, nil, 100)).String(), "ErrFlow")
	refuses(t, schemaText, "print out 1; print nosuch 2;", "script 13 ErrName")
	refuses(t, "levels low; channel out high;", "print", "schema 0 ErrName")
}

func TestSignatures(t *testing.T) {
	var _ func(string, string) (*app.App, []api.Note) = app.New
	var _ func(*app.App) bool = (*app.App).Accepted
	var _ func(*app.App) *schema.Catalog = (*app.App).Catalog
	var _ func(*app.App) api.Verdict = (*app.App).Verdict
	var _ func(*app.App, [][][]api.Value, []int, int) (*store.DB, []api.Out, api.Errno) = (*app.App).Run
}
