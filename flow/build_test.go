package flow_test

import (
	"fmt"
	"slices"
	"strings"
	"testing"

	"cordon/algebra"
	"cordon/api"
	"cordon/flow"
	"cordon/schema"
	"cordon/script"
	"cordon/syntax"
)

func one[T any](l ...T) []T { return l }

// numbered are n things, each made of its number.
func numbered[T any](n int, make func(i int) T) []T {
	var out []T
	for i := range n {
		out = append(out, make(i))
	}
	return out
}

func catalogOf(text string) *schema.Catalog {
	s, at, err := syntax.Schema(text)
	if err != api.OK {
		panic(fmt.Sprint(text, at, err))
	}
	return catalogFrom(s)
}

func catalogFrom(s api.Schema) *schema.Catalog {
	c, at, err := schema.New(s)
	if err != api.OK {
		panic(fmt.Sprint(s, at, err))
	}
	return c
}

// orders are levels of which a and b stand beside one another, at several places: Bottom is the first, one in the middle, the last.
var orders = one("levels low, a, b, high;", "levels b, high, low, a;", "levels high, b, a, low;")

// ground is what all tests' schemas have: a channel of each level, not in the order of their names, and a table whose columns are never null.
const ground = "order low < a < high; order low < b < high; channel out low; channel ch high; channel ca a; channel cb b;" +
	"table t rows low (i int low, ia int a, ib int b, ih int high, p bool low, pa bool a, pb bool b, ph bool high);"

// bench is a schema with its levels in each of the orders.
type bench []*schema.Catalog

func benchOf(tables string) bench {
	return numbered(len(orders), func(i int) *schema.Catalog { return catalogOf(orders[i] + ground + tables) })
}

// preamble makes variables of each level, without raising anything, and without a higher place for what stands behind it.
const preamble = "var l int; var va int; var vb int; var vh int; for l, va, vb, vh in select i as l, ia as a, ib as b, ih as h from t { skip; } "

func levelOf(c *schema.Catalog, name string) int {
	level, ok := c.Lattice().Find(name)
	if !ok {
		panic("no level " + name)
	}
	return level
}

func nameOf(c *schema.Catalog, level int) string {
	if names := c.Lattice().Levels(); level >= 0 && level < len(names) {
		return names[level]
	}
	return fmt.Sprint(level)
}

func programOf(t testing.TB, c *schema.Catalog, text string) api.Program {
	t.Helper()
	s, at, err := syntax.Script(text)
	if err != api.OK {
		t.Fatalf("%s: %d %v", text, at, err)
	}
	return compiled(t, c, s)
}

func compiled(t testing.TB, c *schema.Catalog, s api.Script) api.Program {
	t.Helper()
	p, at, err := script.Compile(c, s)
	if err != api.OK {
		t.Fatalf("%+v: %d %v", s, at, err)
	}
	return p
}

func planOf(t testing.TB, c *schema.Catalog, text string) api.Plan {
	t.Helper()
	q, at, err := syntax.Query(text)
	if err != api.OK {
		t.Fatalf("%s: %d %v", text, at, err)
	}
	p, err := algebra.Plan(c, one(api.Var{Name: "v", Type: api.TyInt}, api.Var{Name: "w", Type: api.TyBool}), q)
	if err != api.OK {
		t.Fatalf("%s: %v", text, err)
	}
	return p
}

// A verdict as a text: of each procedure in brackets the levels at which it is called, of its variables, and at which it raises something, where these are not Bottom (or can't be); then loops, if that is not Bottom; then all that may not flow, as why and the statement's text. Of the preamble's variables nothing is told, as long as they have their levels.

var whys = []string{"nothing", "print", "column", "rows", "saved", "input"}

func raiseTold(c *schema.Catalog, raise int, can bool) []string {
	switch {
	case can:
		return one("raises " + nameOf(c, raise))
	case raise != c.Lattice().Bottom():
		return one("raises nothing, at " + nameOf(c, raise))
	}
	return nil
}

func isPreamble(c *schema.Catalog, name string, level int) bool {
	of := map[string]string{"va": "a", "vb": "b", "vh": "high"}[name]
	return of != "" && of == nameOf(c, level)
}

func codeTold(c *schema.Catalog, code api.Code, v api.Verdict, i int) string {
	var out []string
	if v.Entry[i] != c.Lattice().Bottom() {
		out = append(out, "at "+nameOf(c, v.Entry[i]))
	}
	for j, x := range slices.Concat(code.Params, code.Vars) {
		if level := v.Vars[i][j]; level != c.Lattice().Bottom() && !isPreamble(c, x.Name, level) {
			out = append(out, x.Name+" "+nameOf(c, level))
		}
	}
	out = append(out, raiseTold(c, v.Raise[i], v.Can[i])...)
	if len(out) == 0 {
		return ""
	}
	return code.Name + "[" + strings.Join(out, ", ") + "]"
}

func verdictTold(c *schema.Catalog, text string, p api.Program, v api.Verdict) string {
	n := len(p.Procs)
	if len(v.Vars) != n || len(v.Entry) != n || len(v.Raise) != n || len(v.Can) != n {
		return fmt.Sprintf("of %d procedures %+v", n, v)
	}
	var out []string
	for i, code := range p.Procs {
		if len(v.Vars[i]) != len(code.Params)+len(code.Vars) {
			return fmt.Sprintf("of %+v %+v", code, v)
		}
		out = append(out, codeTold(c, code, v, i))
	}
	if v.Loops != c.Lattice().Bottom() {
		out = append(out, "loops "+nameOf(c, v.Loops))
	}
	for _, d := range v.Diags {
		out = append(out, diagTold(text, d))
	}
	return strings.Join(slices.DeleteFunc(out, func(s string) bool { return s == "" }), "; ")
}

func diagTold(text string, d api.Diag) string {
	stmt := text[d.At:]
	if end := strings.IndexAny(stmt, ";{"); end >= 0 {
		stmt = strings.TrimSpace(stmt[:end])
	}
	return whys[d.Why] + ": " + stmt
}

func check[T comparable](t testing.TB, what any, got, want T) {
	t.Helper()
	if got != want {
		t.Errorf("%v:\n got %v\nwant %v", what, got, want)
	}
}

// whole holds scripts to their verdicts, as they are: of each two texts the first is a script, the second one its verdict.
func (b bench) whole(t *testing.T, texts ...string) {
	t.Helper()
	for _, c := range b {
		for two := range slices.Chunk(texts, 2) {
			p := programOf(t, c, two[0])
			check(t, two[0], verdictTold(c, two[0], p, flow.Check(c, p)), two[1])
		}
	}
}

// checks does the same with the preamble ahead, behind what the script itself declares.
func (b bench) checks(t *testing.T, texts ...string) {
	t.Helper()
	for two := range slices.Chunk(texts, 2) {
		b.whole(t, withPreamble(two[0]), two[1])
	}
}

// withPreamble puts the preamble where statements begin.
func withPreamble(text string) string {
	declared, rest, found := strings.Cut(text, " | ")
	if !found {
		return preamble + text
	}
	return strings.Replace(preamble, "for ", declared+" for ", 1) + rest
}

// enough looks whether each of some things came often enough.
func enough[K comparable](t testing.TB, got map[K]int, least int, names ...K) {
	t.Helper()
	for _, name := range names {
		if got[name] < least {
			t.Errorf("%v came %d times, of %v", name, got[name], got)
		}
	}
}

// nobodies are catalogs that no call made.
func nobodies() []*schema.Catalog { return one(nil, &schema.Catalog{}) }

// Nodes and plans, put together by hand.

func col(place int) api.Node { return api.Node{Kind: api.ExCol, N: place} }

func number(n int) api.Node { return api.Node{Kind: api.ExInt, N: n} }

func variable(name string) api.Node { return api.Node{Kind: api.ExVar, S: name} }

func yes() api.Node { return api.Node{Kind: api.ExBool, N: 1} }

func node(kind int, kids ...api.Node) api.Node { return api.Node{Kind: kind, Kids: kids} }

func neg(place int) api.Node { return node(api.ExNeg, col(place)) }

func asking(kind int, p api.Plan, kids ...api.Node) api.Node {
	return api.Node{Kind: kind, Kids: kids, Plans: one(p)}
}

func scan(table int) api.Plan { return api.Plan{Kind: api.PlScan, N: table} }

func visible(table int) api.Plan { return api.Plan{Kind: api.PlVisible, N: table} }

func above(kind int, kid api.Plan, e ...api.Node) api.Plan {
	return api.Plan{Kind: kind, Kids: one(kid), E: e}
}

func pair(kind int, a, b api.Plan, e ...api.Node) api.Plan {
	return api.Plan{Kind: kind, Kids: one(a, b), E: e}
}

func group(kid api.Plan, keys []int, aggs ...api.Gather) api.Plan {
	return api.Plan{Kind: api.PlGroup, Kids: one(kid), Keys: keys, Aggs: aggs}
}

func gather(fn string, e ...api.Node) api.Gather { return api.Gather{Fn: fn, E: e} }
