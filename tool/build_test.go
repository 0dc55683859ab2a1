package tool_test

import (
	"fmt"
	"strings"
	"testing"

	"cordon/api"
	"cordon/tool"
	"cordon/value"
)

func one[T any](l ...T) []T { return l }

// numbered are n things, each made of its number.
func numbered[T any](n int, make func(i int) T) []T {
	var out []T
	for i := range n {
		out = append(out, make(i))
	}
	return out
}

// lines is a text of lines, each with its end.
func lines(l ...string) string {
	if len(l) == 0 {
		return ""
	}
	return strings.Join(l, "\n") + "\n"
}

func num(n int) api.Value     { return value.Int(n) }
func text(s string) api.Value { return value.Text(s) }

func row(l ...api.Value) []api.Value { return l }

// repeated is a row of the same value.
func repeated(v api.Value, n int) []api.Value {
	return numbered(n, func(int) api.Value { return v })
}

func load(table string, rows ...[]api.Value) api.Load { return api.Load{Table: table, Rows: rows} }

// with is a copy of something that is changed.
func with[T any](x T, change func(x *T)) T {
	x = copied(x)
	change(&x)
	return x
}

// cut is as much of something as is good to be read.
func cut(x any) string {
	s := fmt.Sprint(x)
	if len(s) > 600 {
		return fmt.Sprintf("%s .. (%d bytes)", s[:600], len(s))
	}
	return s
}

func check[T comparable](t testing.TB, what any, got, want T) {
	t.Helper()
	if got != want {
		t.Errorf("%s:\n got %s\nwant %s", cut(what), cut(got), cut(want))
	}
}

// enough looks whether each of some things came often enough.
func enough[K comparable](t testing.TB, got map[K]int, least int, names ...K) {
	t.Helper()
	for _, name := range names {
		if got[name] < least {
			t.Errorf("%v came %d times, of %v", name, got[name], got)
		}
	}
}

// parses holds Parse of a text against a job.
func parses(t testing.TB, s string, want api.Job) {
	t.Helper()
	got, at, err := tool.Parse(s)
	if err != api.OK || at != 0 || !same(got, want) {
		t.Errorf("Parse(%q):\n got %s, %d, %v\nwant %s", cut(s), cut(fmt.Sprintf("%+v", got)), at, err, cut(fmt.Sprintf("%+v", want)))
	}
}

// stops holds Parse, and Run, of a text against a line and an error; with that there is nothing else.
func stops(t testing.TB, s string, wantAt int, want api.Errno) {
	t.Helper()
	got, at, err := tool.Parse(s)
	if err != want || at != wantAt || !same(got, api.Job{}) {
		t.Errorf("Parse(%q): %d, %v, want %d, %v; beside it %s", cut(s), at, err, wantAt, want, cut(fmt.Sprintf("%+v", got)))
	}
	told, at, err := tool.Run(s)
	if err != want || at != wantAt || told != "" {
		t.Errorf("Run(%q): %d, %v, want %d, %v; beside it %s", cut(s), at, err, wantAt, want, cut(told))
	}
}

// tells holds Tell of a job against a text, and Parse of that against the job (P25.4).
func tells(t testing.TB, j api.Job, want string) {
	t.Helper()
	got, err := tool.Tell(j)
	if err != api.OK || got != want {
		t.Errorf("Tell(%s): %v\n got %q\nwant %q", cut(fmt.Sprintf("%+v", j)), err, cut(got), cut(want))
		return
	}
	parses(t, got, j)
}

// refused holds Tell of a job against an error.
func refused(t testing.TB, what any, j api.Job, want api.Errno) {
	t.Helper()
	if got, err := tool.Tell(j); err != want || got != "" {
		t.Errorf("%s: %v, want %v; beside it %q", cut(what), err, want, cut(got))
	}
}

// does holds Run of a text against what it tells.
func does(t testing.TB, s, want string) {
	t.Helper()
	got, at, err := tool.Run(s)
	if err != api.OK || at != 0 || got != want {
		t.Errorf("Run(%s): %d %v\n got %s\nwant %s", cut(s), at, err, cut(got), cut(want))
	}
}

// answered is what Run answers.
type answered struct {
	told string
	at   int
	err  api.Errno
}

func runOf(s string) answered {
	told, at, err := tool.Run(s)
	return answered{told, at, err}
}
