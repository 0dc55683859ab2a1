package derive_test

import (
	"fmt"
	"slices"
	"strings"
	"testing"

	"cordon/api"
	"cordon/derive"
	"cordon/flow"
	"cordon/schema"
	"cordon/script"
	"cordon/syntax"
)

func one[T any](l ...T) []T { return l }

// numbered are n things, each made of its number.
func numbered[T any](n int, make func(i int) T) []T {
	var out []T
	for i := range n {
		out = append(out, make(i))
	}
	return out
}

func catalogOf(text string) *schema.Catalog {
	s, at, err := syntax.Schema(text)
	if err != api.OK {
		panic(fmt.Sprint(text, at, err))
	}
	return catalogFrom(s)
}

func catalogFrom(s api.Schema) *schema.Catalog {
	c, at, err := schema.New(s)
	if err != api.OK {
		panic(fmt.Sprint(s, at, err))
	}
	return c
}

// orders are levels of which a and b stand beside one another, at several places: Bottom is the first, one in the middle, the last.
var orders = one("levels low, a, b, high;", "levels b, high, low, a;", "levels high, b, a, low;")

const order = "order low < a < high; order low < b < high;"

// ground is what most tests' schemas have: a channel of each level, not in the order of their names, and a table whose columns are never null.
const ground = order + "channel out low; channel ch high; channel ca a; channel cb b;" +
	"table t rows low (i int low, ia int a, ib int b, ih int high, p bool low, pa bool a, pb bool b, ph bool high);"

// bench is a schema with its levels in each of the orders.
type bench []*schema.Catalog

func benchOf(tables string) bench { return benchFrom(ground + tables) }

func benchFrom(rest string) bench {
	return numbered(len(orders), func(i int) *schema.Catalog { return catalogOf(orders[i] + rest) })
}

// preamble makes variables of each level, without raising anything, and without a higher place for what stands behind it. Its rule is the script's first.
const preamble = "var l int; var va int; var vb int; var vh int; for l, va, vb, vh in select i as l, ia as a, ib as b, ih as h from t { skip; } "

// withPreamble puts the preamble where statements begin: behind what is declared, up to a bar.
func withPreamble(text string) string {
	declared, rest, found := strings.Cut(text, " | ")
	if !found {
		return preamble + text
	}
	return strings.Replace(preamble, "for ", declared+" for ", 1) + rest
}

// Of each expression that is used: :va is at a, and can raise nothing; -:va is at a, and raises at a; -1 is at low, and raises there. Those below tell Value and Raise apart.
const (
	quiet = "exists (select -ia as x from t)"        // Value low, Raise a
	mixed = "case when :va > 0 then -1 else :vb end" // Value high, Raise a
	early = "-1 > 0 or :va > 0"                      // Value a, Raise low
	rowsA = "select i as x from t where pa"          // Rows a, Cols low
)

func levelOf(c *schema.Catalog, name string) int {
	level, ok := c.Lattice().Find(name)
	if !ok {
		panic("no level " + name)
	}
	return level
}

func nameOf(c *schema.Catalog, level int) string {
	if names := c.Lattice().Levels(); level >= 0 && level < len(names) {
		return names[level]
	}
	return fmt.Sprint(level)
}

// read is a script that is made a program.
func read(t testing.TB, c *schema.Catalog, text string) made {
	t.Helper()
	s, at, err := syntax.Script(text)
	if err != api.OK {
		t.Fatalf("%s: %d %v", text, at, err)
	}
	p, at, err := script.Compile(c, s)
	if err != api.OK {
		t.Fatalf("%s: %d %v", text, at, err)
	}
	return made{s, p}
}

func programOf(t testing.TB, c *schema.Catalog, text string) api.Program {
	t.Helper()
	return read(t, c, text).p
}

func check[T comparable](t testing.TB, what any, got, want T) {
	t.Helper()
	if got != want {
		t.Errorf("%v:\n got %v\nwant %v", what, got, want)
	}
}

// enough looks whether each of some things came often enough.
func enough[K comparable](t testing.TB, got map[K]int, least int, names ...K) {
	t.Helper()
	for _, name := range names {
		if got[name] < least {
			t.Errorf("%v came %d times, of %v", name, got[name], got)
		}
	}
}

// nobodies are catalogs that no call made.
func nobodies() []*schema.Catalog { return one(nil, &schema.Catalog{}) }

// isNothing tells whether a proof is the zero one.
func isNothing(x api.Proof) bool {
	return len(x.Vars)+len(x.Entry)+len(x.Raise)+len(x.Can)+len(x.Procs) == 0
}

// madeOf is the proof that Make makes of a program of which nothing may not flow: Verify takes it, and its levels are those of layer 18.
func madeOf(t testing.TB, c *schema.Catalog, p api.Program) api.Proof {
	t.Helper()
	x, ok := derive.Make(c, p)
	if !ok || !derive.Verify(c, p, x) {
		t.Errorf("%v, %+v, of which it is %v that Verify takes it", ok, x, derive.Verify(c, p, x))
	}
	v := flow.Check(c, p)
	check(t, "layer 18", len(v.Diags), 0)
	check(t, "levels", fmt.Sprint(x.Vars, x.Entry, x.Raise, x.Can), fmt.Sprint(v.Vars, v.Entry, v.Raise, v.Can))
	return x
}

// spot is something that a proof claims: a level, or whether something can be raised.
type spot struct {
	name  string
	level *int
	can   *bool
}

// spotsOf are all that a proof claims. A variable is named by its name, a statement by its place, one in its blocks by that, b or e, and its place there; of all but the script itself the procedure's name stands ahead.
func spotsOf(p api.Program, x *api.Proof) []spot {
	var out []spot
	for i, code := range p.Procs {
		name := code.Name
		if name != "" {
			name += "."
		}
		for j, v := range slices.Concat(code.Params, code.Vars) {
			out = append(out, spot{name: name + v.Name, level: &x.Vars[i][j]})
		}
		out = append(out, spot{name: name + "entry", level: &x.Entry[i]}, spot{name: name + "raise", level: &x.Raise[i]}, spot{name: name + "can", can: &x.Can[i]})
		out = append(out, ruleSpots(name, x.Procs[i])...)
	}
	return out
}

func ruleSpots(ahead string, rules []api.Rule) []spot {
	var out []spot
	for i := range rules {
		r, name := &rules[i], fmt.Sprint(ahead, i, ".")
		out = append(out, spot{name: name + "pc", level: &r.Pc}, spot{name: name + "raise", level: &r.Raise}, spot{name: name + "can", can: &r.Can})
		out = append(out, ruleSpots(name+"b", r.Body)...)
		out = append(out, ruleSpots(name+"e", r.Else)...)
	}
	return out
}

// edited is a proof in which some things are claimed otherwise, told as name=level, or name=true, with blanks between.
func edited(t testing.TB, c *schema.Catalog, p api.Program, x api.Proof, edits string) api.Proof {
	t.Helper()
	x = copied(x)
	spots := spotsOf(p, &x)
	for _, e := range strings.Fields(edits) {
		name, to, _ := strings.Cut(e, "=")
		place := slices.IndexFunc(spots, func(s spot) bool { return s.name == name })
		switch {
		case place < 0:
			t.Fatalf("%s is not claimed", name)
		case spots[place].can != nil:
			*spots[place].can = to == "true"
		default:
			*spots[place].level = levelOf(c, to)
		}
	}
	return x
}

// proofs holds proofs of a script to whether they are taken. Each line is a change of the one that Make makes: behind + it is taken, behind - not. The second way says the same.
func (b bench) proofs(t *testing.T, text string, lines ...string) {
	t.Helper()
	b.whole(t, withPreamble(text), lines...)
}

// whole does the same without the preamble.
func (b bench) whole(t *testing.T, text string, lines ...string) {
	t.Helper()
	for _, c := range b {
		m := read(t, c, text)
		x := madeOf(t, c, m.p)
		check(t, text, modelOf(c, m).takes(x), true)
		for _, line := range lines {
			y := edited(t, c, m.p, x, line[1:])
			check(t, text+" "+line, derive.Verify(c, m.p, y), line[0] == '+')
			check(t, "the second way: "+text+" "+line, modelOf(c, m).takes(y), line[0] == '+')
		}
	}
}

// refused holds scripts to that there is no proof of them: neither does Make make one, nor is the one taken that claims the least, or the same with all raised.
func (b bench) refused(t *testing.T, texts ...string) {
	t.Helper()
	for _, c := range b {
		for _, text := range texts {
			m := read(t, c, withPreamble(text))
			noProof(t, c, m)
		}
	}
}

func noProof(t testing.TB, c *schema.Catalog, m made) {
	t.Helper()
	if x, ok := derive.Make(c, m.p); ok || !isNothing(x) {
		t.Errorf("%+v: %v, %+v", m.s, ok, x)
	}
	x := modelOf(c, m).least()
	check(t, "the least one", derive.Verify(c, m.p, x), false)
	for _, s := range spotsOf(m.p, &x) {
		if s.level != nil {
			*s.level = c.Lattice().Top()
		} else {
			*s.can = true
		}
	}
	check(t, "the greatest one", derive.Verify(c, m.p, x), false)
}

// Nodes and plans, put together by hand.

func col(place int) api.Node { return api.Node{Kind: api.ExCol, N: place} }

func number(n int) api.Node { return api.Node{Kind: api.ExInt, N: n} }

func variable(name string) api.Node { return api.Node{Kind: api.ExVar, S: name} }

func node(kind int, kids ...api.Node) api.Node { return api.Node{Kind: kind, Kids: kids} }

func scan(table int) api.Plan { return api.Plan{Kind: api.PlScan, N: table} }

func above(kind int, kid api.Plan, e ...api.Node) api.Plan {
	return api.Plan{Kind: kind, Kids: one(kid), E: e}
}
