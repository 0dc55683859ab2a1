package audit_test

import (
	"fmt"
	"math"
	"strconv"
	"strings"
	"sync"
	"testing"

	"cordon/algebra"
	"cordon/api"
	"cordon/audit"
	"cordon/schema"
	"cordon/store"
	"cordon/syntax"
	"cordon/value"
)

func one[T any](l ...T) []T { return l }

// numbered are n things, each made of its number.
func numbered[T any](n int, make func(i int) T) []T {
	var out []T
	for i := range n {
		out = append(out, make(i))
	}
	return out
}

func catalogOf(text string) *schema.Catalog {
	s, at, err := syntax.Schema(text)
	if err != api.OK {
		panic(fmt.Sprint(text, at, err))
	}
	return catalogFrom(s)
}

func catalogFrom(s api.Schema) *schema.Catalog {
	c, at, err := schema.New(s)
	if err != api.OK {
		panic(fmt.Sprint(s, at, err))
	}
	return c
}

func levelOf(c *schema.Catalog, name string) int {
	level, ok := c.Lattice().Find(name)
	if !ok {
		panic("no level " + name)
	}
	return level
}

// noLevels are numbers that are no level of a catalog's lattice.
func noLevels(c *schema.Catalog) []int {
	n := len(c.Lattice().Levels())
	return one(-1, -2, n, n+1, api.MaxLevels, math.MaxInt, math.MinInt)
}

// nones are what no call made.
func nones() []*schema.Catalog { return []*schema.Catalog{nil, {}} }

func noStores() []*store.DB {
	return []*store.DB{nil, {}, store.New(nil), store.New(&schema.Catalog{})}
}

// Rows as texts: values with blanks between them, rows with semicolons; a text stands in quotes.

func val(word string) api.Value {
	switch {
	case word == "null":
		return value.Null()
	case word == "true" || word == "false":
		return value.Bool(word == "true")
	case word[0] == '\'':
		return value.Text(strings.Trim(word, "'"))
	}
	n, err := strconv.Atoi(word)
	if err != nil {
		panic(err)
	}
	return value.Int(n)
}

func rowsOf(text string) [][]api.Value {
	var out [][]api.Value
	for _, row := range strings.Split(text, ";") {
		if words := strings.Fields(row); len(words) > 0 {
			out = append(out, numbered(len(words), func(i int) api.Value { return val(words[i]) }))
		}
	}
	return out
}

func valueTold(v api.Value) string {
	switch v.Type {
	case api.TyNull:
		return "null"
	case api.TyBool:
		return strconv.FormatBool(v.N == 1)
	case api.TyInt:
		return strconv.Itoa(v.N)
	}
	return "'" + v.S + "'"
}

func rowsTold(l [][]api.Value) string {
	return strings.Join(numbered(len(l), func(i int) string {
		return strings.Join(numbered(len(l[i]), func(j int) string { return valueTold(l[i][j]) }), " ")
	}), "; ")
}

func storeTold(d *store.DB) string {
	if d.Catalog() == nil {
		return "no store"
	}
	return strings.Join(numbered(len(d.Catalog().Tables()), func(i int) string { return rowsTold(d.Rows(i)) }), " | ")
}

// storeOf is one with these rows in its tables.
func storeOf(c *schema.Catalog, tables ...string) *store.DB {
	d, at, err := store.Load(c, numbered(len(tables), func(i int) [][]api.Value { return rowsOf(tables[i]) }))
	if err != api.OK {
		panic(fmt.Sprint(tables, at, err))
	}
	return d
}

// Answers as texts.

func grantsTold(l []api.Grant) string {
	return strings.Join(numbered(len(l), func(i int) string { return l[i].Table + "." + l[i].Column }), " ")
}

func namesTold(l []string) string { return strings.Join(l, " ") }

// answerTold is what was asked for: the rows, or just the error; an error with rows is told by both.
func answerTold(rows [][]api.Value, err api.Errno) string {
	if err != api.OK && len(rows) == 0 {
		return err.Error()
	}
	if err != api.OK {
		return err.Error() + " with " + rowsTold(rows)
	}
	return rowsTold(rows)
}

func askedTold(d *store.DB, who string, p api.Plan) string {
	rows, err := audit.Ask(d, who, p)
	return answerTold(rows, err)
}

// planOf is a query's plan, in which v and w are variables of a script.
func planOf(c *schema.Catalog, text string) api.Plan {
	q, at, err := syntax.Query(text)
	if err != api.OK {
		panic(fmt.Sprint(text, at, err))
	}
	p, err := algebra.Plan(c, one(api.Var{Name: "v", Type: api.TyInt}, api.Var{Name: "w", Type: api.TyBool}), q)
	if err != api.OK {
		panic(fmt.Sprint(text, err))
	}
	return p
}

func check(t testing.TB, what any, got, want string) {
	t.Helper()
	if got != want {
		t.Errorf("%v: %s, not %s", what, got, want)
	}
}

func checkIs(t testing.TB, what any, got, want bool) {
	t.Helper()
	if got != want {
		t.Errorf("%v: %v", what, got)
	}
}

func checkErr(t testing.TB, what any, got, want api.Errno) {
	t.Helper()
	if got != want {
		t.Errorf("%v: %v, not %v", what, got, want)
	}
}

// ourText has tables with rows at the least level, above and beside their columns; without Hide, with one above, and with one that is their rows' level. Channels and principals stand neither by name nor by level.
const ourText = "order low < a < high; order low < b < high;" +
	"table t rows low (i int low, x int null a, y text b, z bool null high) key (i);" +
	"table u rows a (k int low, v int null a, w int null b) key (k);" +
	"table h rows low (k int low, f bool null low, s text null high) key (k) hide high when f;" +
	"table m rows low (n int low, p int null b) hide a when n < 0;" +
	"table g rows b (n int low, q int high) hide b when n = 0;" +
	"table n rows low (c int null a, d text high);" +
	"channel out b; channel log high; channel note low; channel back a; channel again a; channel cl low;" +
	"principal zoe high; principal bob a; principal ann low; principal cyd b; principal dan a; principal note b; principal eve high; principal abe low;"

// ours are catalogs of the same names with levels at several places: Bottom is the first, one in the middle, the last.
var ours = sync.OnceValue(func() []*schema.Catalog {
	return one(catalogOf("levels low, a, b, high;"+ourText), catalogOf("levels b, high, low, a;"+ourText), catalogOf("levels high, b, a, low;"+ourText))
})

// ourPeople are the principals of each level; note has the name of a channel.
func ourPeople() map[string][]string {
	return map[string][]string{"low": {"ann", "abe"}, "a": {"bob", "dan"}, "b": {"cyd", "note"}, "high": {"zoe", "eve"}}
}

// strangers are names that are no principal's, of which tables, columns, channels, levels and nothing have some.
func strangers() []string {
	return []string{"", "t", "u", "i", "out", "log", "cl", "low", "a", "b", "high", "Ann", "ann ", " ann", "an", "anna", "ANN", "zoe\x00", "\xff", strings.Repeat("ann", 1000)}
}

// ourRows have hidden rows in front of, between and behind others, one whose predicate is null, and the same row twice.
const ourRows = "1 2 'x' true; 2 null 'y' null" +
	"| 1 5 6; 2 null null" +
	"| 1 true 'p'; 2 null 'q'; 1 false null; 3 true 'r'; 4 false 's'; 5 true null" +
	"| 3 7; -1 8; 3 7; -1 8; 5 null" +
	"| 0 1; 4 2; 0 3" +
	"| 1 'x'; null 'y'; 1 'x'"

// tablesOf are the rows of each table, of a text of all of them.
func tablesOf(text string) []string { return strings.Split(text, "|") }

func ourStore(c *schema.Catalog) *store.DB { return storeOf(c, tablesOf(ourRows)...) }

// two are lattices of two levels, of which the first, or the second, is Bottom.
func two(text string) []*schema.Catalog {
	return one(catalogOf("levels low, high; order low < high;"+text), catalogOf("levels high, low; order low < high;"+text))
}
