package labels_test

import (
	"fmt"
	"slices"
	"strings"
	"sync"
	"testing"

	"cordon/algebra"
	"cordon/api"
	"cordon/labels"
	"cordon/schema"
	"cordon/syntax"
)

func one[T any](l ...T) []T { return l }

// numbered are n things, each made of its number.
func numbered[T any](n int, make func(i int) T) []T {
	var out []T
	for i := range n {
		out = append(out, make(i))
	}
	return out
}

func catalogOf(text string) *schema.Catalog {
	s, at, err := syntax.Schema(text)
	if err != api.OK {
		panic(fmt.Sprint(text, at, err))
	}
	return catalogFrom(s)
}

func catalogFrom(s api.Schema) *schema.Catalog {
	c, at, err := schema.New(s)
	if err != api.OK {
		panic(fmt.Sprint(s, at, err))
	}
	return c
}

// ourText has tables without Hide, with one above their rows, and with one that is their rows' level; rows above, below and beside their columns.
const ourText = "order low < a < high; order low < b < high;" +
	"table t rows low (i int low, ia int a, ib int b, ih int high, p bool low, pa bool a, pb bool b, ph bool high, s text low, sa text a);" +
	"table u rows a (x int low, y int a, z int b, w int high);" +
	"table v rows low (i int low, j int b) hide b when i = 1;" +
	"table m rows a (i int low, j int a) hide high when j > 0;" +
	"table k rows b (n int low) key (n) hide b when n = 0;"

// ours are catalogs of the same names with levels at several places: Bottom is the first, one in the middle, the last.
var ours = sync.OnceValue(func() []*schema.Catalog {
	return one(catalogOf("levels low, a, b, high;"+ourText), catalogOf("levels b, high, low, a;"+ourText), catalogOf("levels high, b, a, low;"+ourText))
})

func levelOf(c *schema.Catalog, name string) int {
	level, ok := c.Lattice().Find(name)
	if !ok {
		panic("no level " + name)
	}
	return level
}

func nameOf(c *schema.Catalog, level int) string {
	if names := c.Lattice().Levels(); level >= 0 && level < len(names) {
		return names[level]
	}
	return fmt.Sprint(level)
}

// ourVars are variables of each level. One is there twice, with two levels; of none no level is told.
func ourVars(c *schema.Catalog) []api.Named {
	return one(api.Named{Name: "l", Level: levelOf(c, "low")}, api.Named{Name: "va", Level: levelOf(c, "a")}, api.Named{Name: "vb", Level: levelOf(c, "b")},
		api.Named{Name: "vh", Level: levelOf(c, "high")}, api.Named{Name: "va", Level: levelOf(c, "high")}, api.Named{Name: "other", Level: levelOf(c, "high")})
}

func typedVars() []api.Var {
	names := strings.Fields("l va vb vh none")
	return numbered(len(names), func(i int) api.Var { return api.Var{Name: names[i], Type: api.TyInt} })
}

// ourCols are the levels of t's columns.
func ourCols(c *schema.Catalog) []int {
	return numbered(len(c.Tables()[0].Cols), func(i int) int { return c.Tables()[0].Cols[i].Level })
}

func nodeOf(t testing.TB, c *schema.Catalog, text string) api.Node {
	t.Helper()
	x, at, err := syntax.Expr(text)
	if err != api.OK {
		t.Fatalf("%q: %d %v", text, at, err)
	}
	fields := c.Tables()[0].Cols
	n, err := algebra.Node(c, typedVars(), numbered(len(fields), func(i int) api.Place { return api.Place{T: "t", Name: fields[i].Name, Type: fields[i].Type} }), x)
	if err != api.OK {
		t.Fatalf("%q: %v", text, err)
	}
	return n
}

func planOf(t testing.TB, c *schema.Catalog, text string) api.Plan {
	t.Helper()
	q, at, err := syntax.Query(text)
	if err != api.OK {
		t.Fatalf("%q: %d %v", text, at, err)
	}
	p, err := algebra.Plan(c, typedVars(), q)
	if err != api.OK {
		t.Fatalf("%q: %v", text, err)
	}
	return p
}

// Answers as texts: a mark is its Value, a sheet its Rows, a colon, and its Cols; behind it, if something can be raised, the level of that.

func raiseTold(c *schema.Catalog, raise int, can bool) string {
	switch {
	case can:
		return " raises " + nameOf(c, raise)
	case raise != c.Lattice().Bottom():
		return " raises nothing, at " + nameOf(c, raise)
	}
	return ""
}

func markTold(c *schema.Catalog, m api.Mark) string {
	return nameOf(c, m.Value) + raiseTold(c, m.Raise, m.Can)
}

func sheetTold(c *schema.Catalog, s api.Sheet) string {
	out := nameOf(c, s.Rows) + ":"
	for _, level := range s.Cols {
		out += " " + nameOf(c, level)
	}
	return out + raiseTold(c, s.Raise, s.Can)
}

func nodeTold(c *schema.Catalog, n api.Node) string {
	return markTold(c, labels.Node(c, ourVars(c), ourCols(c), n))
}

func planTold(c *schema.Catalog, p api.Plan) string {
	return sheetTold(c, labels.Plan(c, ourVars(c), p))
}

func check(t testing.TB, what any, got, want string) {
	t.Helper()
	if got != want {
		t.Errorf("%v: %s, not %s", what, got, want)
	}
}

// marks holds expressions over the columns of t, as texts, to their marks: of each two texts the first is an expression, the second one its mark.
func marks(t *testing.T, texts ...string) {
	t.Helper()
	for _, c := range ours() {
		for two := range slices.Chunk(texts, 2) {
			check(t, two[0], nodeTold(c, nodeOf(t, c, two[0])), two[1])
		}
	}
}

// sheets does the same with queries.
func sheets(t *testing.T, texts ...string) {
	t.Helper()
	for _, c := range ours() {
		for two := range slices.Chunk(texts, 2) {
			check(t, two[0], planTold(c, planOf(t, c, two[0])), two[1])
		}
	}
}

// shape is a plan put together by hand, and its sheet.
type shape struct {
	p    api.Plan
	want string
}

func shapes(t *testing.T, l ...shape) {
	t.Helper()
	for _, c := range ours() {
		for _, s := range l {
			check(t, s.p, planTold(c, s.p), s.want)
		}
	}
}

// Nodes and plans, put together by hand. The places of columns are those of t, the places of tables those of ourText.

const (
	low, a, b, high = 0, 1, 2, 3 // the columns of t that are numbers
	low2, a2, b2    = 4, 5, 6    // truths

	tableT, tableU, tableV, tableM, tableK = 0, 1, 2, 3, 4
)

func at(place int) api.Node { return api.Node{Kind: api.ExCol, N: place} }

func neg(place int) api.Node { return api.Node{Kind: api.ExNeg, Kids: one(at(place))} }

func node(kind int, kids ...api.Node) api.Node { return api.Node{Kind: kind, Kids: kids} }

func asking(kind int, p api.Plan, kids ...api.Node) api.Node {
	return api.Node{Kind: kind, Kids: kids, Plans: one(p)}
}

func yes() api.Node { return api.Node{Kind: api.ExBool, N: 1} }

func scan(table int) api.Plan { return api.Plan{Kind: api.PlScan, N: table} }

func visible(table int) api.Plan { return api.Plan{Kind: api.PlVisible, N: table} }

func above(kind int, kid api.Plan, e ...api.Node) api.Plan {
	return api.Plan{Kind: kind, Kids: one(kid), E: e}
}

func pair(kind int, a, b api.Plan, e ...api.Node) api.Plan {
	return api.Plan{Kind: kind, Kids: one(a, b), E: e}
}

func group(kid api.Plan, keys []int, aggs ...api.Gather) api.Plan {
	return api.Plan{Kind: api.PlGroup, Kids: one(kid), Keys: keys, Aggs: aggs}
}

func gather(fn string, e ...api.Node) api.Gather { return api.Gather{Fn: fn, E: e} }
