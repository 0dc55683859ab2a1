package script_test

import (
	"fmt"
	"reflect"
	"slices"
	"strings"
	"sync"
	"testing"

	"cordon/api"
	"cordon/schema"
	"cordon/script"
	"cordon/syntax"
)

func one[T any](l ...T) []T { return l }

// numbered are n things, each made of its number.
func numbered[T any](n int, make func(i int) T) []T {
	var out []T
	for i := range n {
		out = append(out, make(i))
	}
	return out
}

// ourText is a schema of tables without a key (w, u), with one (t), with one and a predicate that names another column by the table's name (h), with a predicate alone (q), and with fixed columns alone (k). The tables and the channels are not in the order of their names.
const ourText = "levels low, high; order low < high; channel out low; channel log high; channel err low; principal ann low;" +
	"table w rows low (v bool null low);" +
	"table t rows low (a int low, b int null low, c text low, d bool high) key (a);" +
	"table h rows low (k int low, f bool null low, s text null low, n int null low) key (k) hide high when h.f;" +
	"table u rows high (x int low, y text null high);" +
	"table q rows low (a int low, b int null low, z text low) hide high when not (b > 5);" +
	"table k rows low (p int low, r text low) key (r, p);"

func catalogOf(text string) *schema.Catalog {
	s, at, err := syntax.Schema(text)
	if err != api.OK {
		panic(fmt.Sprint(text, at, err))
	}
	c, at, err := schema.New(s)
	if err != api.OK {
		panic(fmt.Sprint(text, at, err))
	}
	return c
}

// ours is made once for all tests, which do not change it.
var ours = sync.OnceValue(func() *schema.Catalog { return catalogOf(ourText) })

func scriptOf(t testing.TB, text string) api.Script {
	t.Helper()
	s, at, err := syntax.Script(text)
	if err != api.OK {
		t.Fatalf("%q: %d %v", text, at, err)
	}
	return s
}

var errNames = map[api.Errno]string{
	api.OK: "OK", api.ErrNil: "ErrNil", api.ErrType: "ErrType", api.ErrMany: "ErrMany", api.ErrDeep: "ErrDeep",
	api.ErrForm: "ErrForm", api.ErrName: "ErrName", api.ErrShape: "ErrShape",
}

// answerOf is what Compile answers, as a text, but for the program: an error's name, and behind it a place.
func answerOf(p api.Program, at int, err api.Errno) string {
	switch {
	case errNames[err] == "", err != api.OK && p.Procs != nil, err == api.OK && (at != 0 || len(p.Procs) == 0):
		return fmt.Sprintf("%d procedures at %d beside %d", len(p.Procs), at, int(err))
	}
	return fmt.Sprint(errNames[err], " ", at)
}

// mark stands in a test's text ahead of the statement whose place is told; without one that is 0.
const mark = "^"

// unmarked is a text without its mark, and the place of that.
func unmarked(t testing.TB, text string) (string, int) {
	t.Helper()
	if strings.Count(text, mark) > 1 {
		t.Fatalf("%q has two marks", text)
	}
	return strings.Replace(text, mark, "", 1), max(0, strings.Index(text, mark))
}

// compiles holds what is answered of a script, as a text with a mark, and tells its program.
func compiles(t testing.TB, text, want string) api.Program {
	t.Helper()
	text, at := unmarked(t, text)
	p, got := watched(t, ours(), scriptOf(t, text))
	if want = fmt.Sprint(want, " ", at); got != want {
		t.Errorf("%q: %s, not %s", text, got, want)
	}
	return p
}

// watched compiles a script, and looks whether the second way answers the same, whether what was handed in is as it was, and whether memory is shared.
func watched(t testing.TB, c *schema.Catalog, s api.Script) (api.Program, string) {
	t.Helper()
	kept, tables := copied(s), c.Tables()
	p, at, err := script.Compile(c, s)
	got := answerOf(p, at, err)
	if !reflect.DeepEqual(s, kept) {
		t.Errorf("%+v was changed to %+v", kept, s)
	}
	if !same(c.Tables(), tables) {
		t.Errorf("the catalog was changed to %+v", c.Tables())
	}
	if !ownMemory(p, s) {
		t.Errorf("%+v: memory is shared", s)
	}
	other, at, err := second(c, s)
	if want := answerOf(other, at, err); got != want {
		t.Errorf("%+v: %s, and the second way %s", s, got, want)
	} else if !same(p, other) {
		t.Errorf("%+v:\n%+v, and the second way\n%+v", s, p, other)
	}
	return p, got
}

func check[T any](t testing.TB, what any, got, want T) {
	t.Helper()
	if !same(got, want) {
		t.Errorf("%v:\n%+v, not\n%+v", what, got, want)
	}
}

// enough looks whether each of some things came often enough.
func enough[K comparable](t testing.TB, got map[K]int, least int, names ...K) {
	t.Helper()
	for _, name := range names {
		if got[name] < least {
			t.Errorf("%v came %d times, of %v", name, got[name], got)
		}
	}
}

// Statements, in all that they may stand in.

// ourVars are seen by each statement that is tried, ourProcs can be called by it.
const (
	ourVars  = "var i int; var j int; var b bool; var s text; "
	ourProcs = "proc none() { skip; } proc two(n int, m text) { var l bool; set l = :n > 1; } "
)

// frames are what a statement, the @, is tried in: the script itself, procedures with others ahead and behind, and blocks.
var frames = []string{
	ourVars + ourProcs + "@",
	ourVars + ourProcs + "skip; set i = 2; @ call none();",
	ourProcs + "proc p(i int, j int, b bool, s text) { @ } call p(1, 2, true, 'x');",
	"var z int; " + ourProcs + "proc p(s text, i int) { var b bool; var j int; skip; @ raise; } proc last(z int) { set z = 1; }",
	ourProcs + "proc p() { " + ourVars + "while :b { @ } }",
	ourVars + ourProcs + "if :b { @ } else { raise; }",
	ourVars + ourProcs + "if :b { skip; } else { skip; @ }",
	ourVars + ourProcs + "for j in select x as x from u { @ }",
	ourVars + ourProcs + "try { @ } catch { skip; }",
	ourVars + ourProcs + "try { raise; } catch { @ } set i = 3;",
	ourVars + ourProcs + "try { if :i > 1 { while null { for i, s in select a as x, c as y from t { if true { } else { try { } catch { @ } } } } } } catch { }",
}

// statements holds what is answered of scripts in which each of some statements stands. Of each two texts the first is the statement, without a mark one that begins with what is told, the second the error.
func statements(t *testing.T, texts ...string) {
	t.Helper()
	for two := range slices.Chunk(texts, 2) {
		text := two[0]
		if !strings.Contains(text, mark) && two[1] != "OK" {
			text = mark + text
		}
		for _, frame := range frames {
			compiles(t, strings.Replace(frame, "@", text, 1), two[1])
		}
	}
}

// opOf is a statement as it is done, in a script with our variables and procedures.
func opOf(t *testing.T, text string) api.Op {
	t.Helper()
	ahead := ourVars + ourProcs + "skip; "
	p := compiles(t, ahead+text, "OK")
	if len(p.Procs) != 3 || len(p.Procs[2].Body) != 2 {
		t.Fatalf("%q: %+v", text, p)
	}
	op := p.Procs[2].Body[1]
	check(t, text+": its place", op.At, len(ahead))
	op.At = 0
	return op
}
