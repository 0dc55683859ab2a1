package app_test

import (
	"fmt"
	"slices"
	"strconv"
	"strings"
	"testing"

	"cordon/api"
	"cordon/app"
	"cordon/flow"
	"cordon/schema"
	"cordon/script"
	"cordon/store"
	"cordon/syntax"
	"cordon/value"
)

func one[T any](l ...T) []T { return l }

// numbered are n things, each made of its number.
func numbered[T any](n int, make func(i int) T) []T {
	var out []T
	for i := range n {
		out = append(out, make(i))
	}
	return out
}

type tablesOf = [][][]api.Value

// Rows as texts: values with blanks between them, rows with semicolons, tables with bars; a text stands in quotes.

func val(word string) api.Value {
	switch {
	case word == "null":
		return value.Null()
	case word == "true" || word == "false":
		return value.Bool(word == "true")
	case word[0] == '\'':
		return value.Text(strings.Trim(word, "'"))
	}
	n, err := strconv.Atoi(word)
	if err != nil {
		panic(err)
	}
	return value.Int(n)
}

func rowsOf(text string) [][]api.Value {
	var out [][]api.Value
	for _, row := range strings.Split(text, ";") {
		if words := strings.Fields(row); len(words) > 0 {
			out = append(out, numbered(len(words), func(i int) api.Value { return val(words[i]) }))
		}
	}
	return out
}

func tables(text string) tablesOf {
	parts := strings.Split(text, "|")
	return numbered(len(parts), func(i int) [][]api.Value { return rowsOf(parts[i]) })
}

func valueTold(v api.Value) string {
	switch v {
	case value.Null():
		return "null"
	case value.Bool(true):
		return "true"
	case value.Bool(false):
		return "false"
	case value.Int(v.N):
		return strconv.Itoa(v.N)
	case value.Text(v.S):
		return "'" + v.S + "'"
	}
	return fmt.Sprintf("odd %+v", v)
}

func rowsTold(l [][]api.Value) string {
	return strings.Join(numbered(len(l), func(i int) string {
		return strings.Join(numbered(len(l[i]), func(j int) string { return valueTold(l[i][j]) }), " ")
	}), "; ")
}

// rowsIn is all rows of all tables.
func rowsIn(d *store.DB) tablesOf {
	return numbered(len(d.Catalog().Tables()), func(i int) [][]api.Value { return d.Rows(i) })
}

func tablesTold(l tablesOf) string {
	return strings.Join(numbered(len(l), func(i int) string { return rowsTold(l[i]) }), " | ")
}

var errNames = map[api.Errno]string{
	api.OK: "OK", api.ErrNil: "ErrNil", api.ErrArg: "ErrArg", api.ErrType: "ErrType", api.ErrOver: "ErrOver", api.ErrZero: "ErrZero", api.ErrKey: "ErrKey", api.ErrRaise: "ErrRaise",
	api.ErrMany: "ErrMany", api.ErrDeep: "ErrDeep", api.ErrForm: "ErrForm", api.ErrName: "ErrName", api.ErrLevel: "ErrLevel", api.ErrRows: "ErrRows", api.ErrFuel: "ErrFuel",
	api.ErrFlow: "ErrFlow", api.ErrNull: "ErrNull", api.ErrSingle: "ErrSingle", api.ErrShape: "ErrShape",
}

var whys = []string{"", " print", " column", " rows", " saved", " input"}

// noteTold is a note as a text: its part, its place, its error, and why, if it says so.
func noteTold(n api.Note) string {
	part := map[int]string{0: "schema", 1: "script", 2: "flow"}[n.Part]
	if part == "" || n.Why < 0 || n.Why >= len(whys) {
		return fmt.Sprintf("odd %+v", n)
	}
	return part + " " + strconv.Itoa(n.At) + " " + errNames[n.Err] + whys[n.Why]
}

func notesTold(l []api.Note) string {
	return strings.Join(numbered(len(l), func(i int) string { return noteTold(l[i]) }), ", ")
}

// marked is a text of which ^ tells a place, without it, and the place; no token has that mark.
func marked(text string) (string, int) {
	at := max(strings.Index(text, "^"), 0)
	return strings.ReplaceAll(text, "^", ""), at
}

// accepted is an application of which nothing may not flow.
func accepted(t testing.TB, schemaText, scriptText string) *app.App {
	t.Helper()
	a, notes := app.New(schemaText, scriptText)
	if a == nil || len(notes) > 0 || !a.Accepted() {
		t.Fatalf("%s: %s", cut(scriptText), notesTold(notes))
	}
	return a
}

// answer is what Run answers.
type answer struct {
	tables *store.DB
	told   []api.Out
	err    api.Errno
}

func answerOf(tables *store.DB, told []api.Out, err api.Errno) answer {
	return answer{tables, told, err}
}

func (a answer) same(b answer) bool {
	return a.err == b.err && slices.Equal(a.told, b.told) && (a.tables == nil) == (b.tables == nil) && a.tables.Same(b.tables)
}

// String is what was told, with the channel's place ahead where it is not the first one, how it ended, and the tables.
func (a answer) String() string {
	out := numbered(len(a.told), func(i int) string {
		if a.told[i].Channel == 0 {
			return valueTold(a.told[i].Value)
		}
		return fmt.Sprint(a.told[i].Channel, ":", valueTold(a.told[i].Value))
	})
	out = append(out, errNames[a.err])
	if a.tables != nil {
		out = append(out, "["+tablesTold(rowsIn(a.tables))+"]")
	}
	return strings.Join(out, " ")
}

// parts are what layers 6, 8 and 15 make of texts that are right.
func parts(t testing.TB, schemaText, scriptText string) (*schema.Catalog, api.Program) {
	t.Helper()
	s, at, err := syntax.Schema(schemaText)
	if err != api.OK {
		t.Fatalf("%s: %d %v", schemaText, at, err)
	}
	c, at, err := schema.New(s)
	if err != api.OK {
		t.Fatalf("%s: %d %v", schemaText, at, err)
	}
	r, at, err := syntax.Script(scriptText)
	if err != api.OK {
		t.Fatalf("%s: %d %v", scriptText, at, err)
	}
	p, at, err := script.Compile(c, r)
	if err != api.OK {
		t.Fatalf("%s: %d %v", scriptText, at, err)
	}
	return c, p
}

func verdictOf(t testing.TB, schemaText, scriptText string) api.Verdict {
	t.Helper()
	return flow.Check(parts(t, schemaText, scriptText))
}

// isNothing tells whether nothing is known by a verdict.
func isNothing(v api.Verdict) bool {
	return len(v.Diags)+len(v.Vars)+len(v.Entry)+len(v.Raise)+len(v.Can)+v.Loops == 0
}

// nobodies are applications that no call made.
func nobodies() []*app.App { return one(nil, new(app.App), &app.App{}) }

func cut(s string) string { return s[:min(len(s), 900)] }

func check[T comparable](t testing.TB, what any, got, want T) {
	t.Helper()
	if got != want {
		t.Errorf("%s:\n got %s\nwant %s", cut(fmt.Sprint(what)), cut(fmt.Sprint(got)), cut(fmt.Sprint(want)))
	}
}

// enough looks whether each of some things came often enough.
func enough[K comparable](t testing.TB, got map[K]int, least int, names ...K) {
	t.Helper()
	for _, name := range names {
		if got[name] < least {
			t.Errorf("%v came %d times, of %v", name, got[name], got)
		}
	}
}
