package interp_test

import (
	"fmt"
	"slices"
	"strconv"
	"strings"
	"sync"
	"testing"

	"cordon/api"
	"cordon/interp"
	"cordon/schema"
	"cordon/script"
	"cordon/store"
	"cordon/syntax"
	"cordon/value"
)

type rowOf = []api.Value

func one[T any](l ...T) []T { return l }

// numbered are n things, each made of its number.
func numbered[T any](n int, make func(i int) T) []T {
	var out []T
	for i := range n {
		out = append(out, make(i))
	}
	return out
}

// val is a value, written as Go writes it; nil is null.
func val(x any) api.Value {
	switch y := x.(type) {
	case bool:
		return value.Bool(y)
	case int:
		return value.Int(y)
	case string:
		return value.Text(y)
	}
	return value.Null()
}

func row(l ...any) rowOf { return numbered(len(l), func(i int) api.Value { return val(l[i]) }) }

// ourText is a schema whose tables have a key (t), a key and a predicate (h), neither and no rows (e), one row (o), and no room (full). The channels are not in the order of their names.
const ourText = "levels low, high; order low < high; limit 6; channel out low; channel log high; channel err low;" +
	"table t rows low (a int low, b int null low) key (a);" +
	"table h rows low (k int low, f bool null low, s text null low) key (k) hide high when f;" +
	"table e rows low (x int null low, y text low);" +
	"table o rows low (x int low);" +
	"table full rows low (x int low, y int null low) key (x);"

var tableNames = strings.Fields("t h e o full")

func catalogOf(text string) *schema.Catalog {
	s, at, err := syntax.Schema(text)
	if err != api.OK {
		panic(fmt.Sprint(text, at, err))
	}
	c, at, err := schema.New(s)
	if err != api.OK {
		panic(fmt.Sprint(text, at, err))
	}
	return c
}

func loaded(c *schema.Catalog, tables ...[]rowOf) *store.DB {
	d, at, err := store.Load(c, tables)
	if err != api.OK {
		panic(fmt.Sprint(at, err))
	}
	return d
}

// ourCatalog is made once for all tests, which do not change it.
var ourCatalog = sync.OnceValue(func() *schema.Catalog { return catalogOf(ourText) })

// ours is made anew for each run. Of h the second row is hidden.
func ours() *store.DB {
	return loaded(ourCatalog(),
		one(row(1, 5), row(2, nil), row(3, 7)),
		one(row(1, false, "x"), row(1, true, "y"), row(2, nil, nil)),
		nil,
		one(row(8)),
		numbered(6, func(i int) rowOf { return row(i, nil) }),
	)
}

func programOf(t testing.TB, c *schema.Catalog, text string) api.Program {
	t.Helper()
	s, at, err := syntax.Script(text)
	if err != api.OK {
		t.Fatalf("%q: %d %v", cut(text), at, err)
	}
	return compiled(t, c, s)
}

func compiled(t testing.TB, c *schema.Catalog, s api.Script) api.Program {
	t.Helper()
	p, at, err := script.Compile(c, s)
	if err != api.OK {
		t.Fatalf("%s: %d %v", cut(fmt.Sprintf("%+v", s)), at, err)
	}
	return p
}

// Answers as texts: what was told, in order, as null true 3 'x' (with the channel ahead, if it is not the first one); then how the run ended; then the tables that have other rows than at first.

var errNames = map[api.Errno]string{
	api.OK: "OK", api.ErrNil: "ErrNil", api.ErrArg: "ErrArg", api.ErrType: "ErrType", api.ErrOver: "ErrOver", api.ErrZero: "ErrZero", api.ErrKey: "ErrKey", api.ErrRaise: "ErrRaise",
	api.ErrMany: "ErrMany", api.ErrDeep: "ErrDeep", api.ErrForm: "ErrForm", api.ErrName: "ErrName", api.ErrLevel: "ErrLevel", api.ErrRows: "ErrRows", api.ErrFuel: "ErrFuel",
	api.ErrFlow: "ErrFlow", api.ErrNull: "ErrNull", api.ErrSingle: "ErrSingle", api.ErrShape: "ErrShape",
}

func valueTold(v api.Value) string {
	switch v {
	case val(nil):
		return "null"
	case val(true):
		return "true"
	case val(false):
		return "false"
	case val(v.N):
		return strconv.Itoa(v.N)
	case val(v.S):
		return "'" + v.S + "'"
	}
	return fmt.Sprintf("odd %+v", v)
}

func outTold(o api.Out) string {
	if o.Channel == 0 {
		return valueTold(o.Value)
	}
	return fmt.Sprint(o.Channel, ":", valueTold(o.Value))
}

func rowsTold(l []rowOf) string {
	if len(l) == 0 {
		return "none"
	}
	return strings.Join(numbered(len(l), func(i int) string {
		return "(" + strings.Join(numbered(len(l[i]), func(j int) string { return valueTold(l[i][j]) }), " ") + ")"
	}), " ")
}

// tablesOf is all rows of all tables.
func tablesOf(d *store.DB) [][]rowOf {
	return numbered(len(d.Catalog().Tables()), func(i int) []rowOf { return d.Rows(i) })
}

func sameTables(a, b [][]rowOf) bool {
	return slices.EqualFunc(a, b, func(x, y []rowOf) bool { return slices.EqualFunc(x, y, slices.Equal) })
}

// answer is what Run answers.
type answer struct {
	tables *store.DB
	told   []api.Out
	err    api.Errno
}

func answerOf(tables *store.DB, told []api.Out, err api.Errno) answer {
	return answer{tables, told, err}
}

func (a answer) same(b answer) bool {
	return a.err == b.err && slices.Equal(a.told, b.told) && a.tables.Same(b.tables) && (a.tables == nil) == (b.tables == nil)
}

// text tells it, of a run that was done to some tables.
func (a answer) text(first *store.DB) string {
	out := numbered(len(a.told), func(i int) string { return outTold(a.told[i]) })
	out = append(out, errNames[a.err])
	was := tablesOf(first)
	for i, rows := range tablesOf(a.tables) {
		if !slices.EqualFunc(rows, was[i], slices.Equal) {
			out = append(out, a.tables.Catalog().Tables()[i].Name+" "+rowsTold(rows))
		}
	}
	return strings.Join(out, " ")
}

// ask is what Run is handed.
type ask struct {
	db      *store.DB
	program api.Program
	inputs  []int
	fuel    int
}

func (a ask) run() answer { return answerOf(interp.Run(a.db, a.program, a.inputs, a.fuel)) }

// watched runs a program, and looks whether the second way answers the same, whether what was handed in is as it was, and whether what is answered is the caller's own.
func watched(t testing.TB, a ask) answer {
	t.Helper()
	program, inputs, tables := a.program, a.inputs, tablesOf(a.db)
	a.program, a.inputs = roomy(program), append(make([]int, 0, len(inputs)+3), inputs...)
	got := a.run()
	if !same(a.program, program) || !hasRoom(a.program) || !slices.Equal(a.inputs, inputs) || !hasRoom(a.inputs) {
		t.Errorf("%+v: the program or its inputs are changed", program)
	}
	if !sameTables(tablesOf(a.db), tables) || got.tables == a.db {
		t.Errorf("%+v: the store is changed", program)
	}
	if other := second(ask{a.db, program, inputs, a.fuel}); !got.same(other) {
		t.Errorf("%+v:\n%s, and the second way\n%s", program, cut(got.text(a.db)), cut(other.text(a.db)))
	}
	if got.tables == nil || got.tables.Catalog() != a.db.Catalog() {
		t.Errorf("%+v: the tables are of another catalog", program)
	}
	return got
}

func cut(s string) string { return s[:min(len(s), 900)] }

func check[T comparable](t testing.TB, what any, got, want T) {
	t.Helper()
	if got != want {
		t.Errorf("%v: %v, not %v", what, cut(fmt.Sprint(got)), cut(fmt.Sprint(want)))
	}
}

// enough looks whether each of some things came often enough.
func enough[K comparable](t testing.TB, got map[K]int, least int, names ...K) {
	t.Helper()
	for _, name := range names {
		if got[name] < least {
			t.Errorf("%v came %d times, of %v", name, got[name], got)
		}
	}
}

const ourFuel = 1000

// told is what a script, as a text, tells, over our tables.
func told(t testing.TB, text string, inputs ...int) string {
	t.Helper()
	return toldWith(t, text, ourFuel, inputs...)
}

func toldWith(t testing.TB, text string, fuel int, inputs ...int) string {
	t.Helper()
	d := ours()
	return watched(t, ask{d, programOf(t, ourCatalog(), text), inputs, fuel}).text(ours())
}

// runs holds scripts to what they tell. Of each two texts the first is the script, the second what is told.
func runs(t *testing.T, texts ...string) {
	t.Helper()
	for two := range slices.Chunk(texts, 2) {
		check(t, two[0], told(t, two[0]), two[1])
	}
}
