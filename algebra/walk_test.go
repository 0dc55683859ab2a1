package algebra_test

import (
	"fmt"
	"math/rand"
	"slices"
	"strings"
	"testing"

	"cordon/algebra"
	"cordon/api"
)

// Nodes, put together by hand.

func at(place int) api.Node                      { return api.Node{Kind: api.ExCol, N: place} }
func truth(n int) api.Node                       { return api.Node{Kind: api.ExBool, N: n} }
func constant(n int) api.Node                    { return api.Node{Kind: api.ExInt, N: n} }
func varNode(s string) api.Node                  { return api.Node{Kind: api.ExVar, S: s} }
func kindOf(kind int, kids ...api.Node) api.Node { return api.Node{Kind: kind, Kids: kids} }

func marked(a api.Node, mark string, b api.Node) api.Node {
	return api.Node{Kind: api.ExBin, S: mark, Kids: one(a, b)}
}

func asking(kind int, p api.Plan, kids ...api.Node) api.Node {
	return api.Node{Kind: kind, Kids: kids, Plans: one(p)}
}

// small plans, that stand within nodes.
func smallPlan(nodes ...api.Node) api.Plan {
	return api.Plan{Kind: api.PlProject, E: nodes, Width: len(nodes), Kids: one(api.Plan{Kind: api.PlScan, Width: 3})}
}

// totals are nodes that can raise nothing, of each kind that can be so.
func totals() []api.Node {
	out := one(
		api.Node{Kind: api.ExNull}, truth(0), truth(1), constant(0), constant(7), api.Node{Kind: api.ExText, S: "x"}, at(0), at(3), varNode("v"),
		kindOf(api.ExNot, at(1)), kindOf(api.ExIs, at(1)), api.Node{Kind: api.ExIs, N: 1, Kids: one(at(1))}, kindOf(api.ExCase, truth(1), at(1), at(2)),
	)
	for _, mark := range marks[:8] {
		out = append(out, marked(at(1), mark, constant(2)))
	}
	return out
}

// partials are nodes that can raise something, of each kind that can.
func partials() []api.Node {
	out := one(
		kindOf(api.ExNeg, constant(1)), asking(api.ExExists, smallPlan(at(0))), asking(api.ExScalar, smallPlan(truth(1))), asking(api.ExIn, smallPlan(at(0)), at(1)),
		kindOf(api.ExAgg), kindOf(api.ExAgg, at(0)), api.Node{}, kindOf(-1), kindOf(16), kindOf(1<<40), kindOf(0, truth(1)),
	)
	for _, mark := range append(slices.Clone(marks[8:]), "", "OR", "not", "==", "!=", "in") {
		out = append(out, marked(at(1), mark, constant(2)))
	}
	return out
}

func totalIs(t *testing.T, n api.Node, want bool) {
	t.Helper()
	kept := copied(n)
	if got := algebra.Total(n); got != want {
		t.Errorf("%s: %v", nodeTold(n), got)
	}
	if !same(n, kept) {
		t.Errorf("%s is changed", nodeTold(n))
	}
}

// around are nodes in which others stand, that raise nothing themselves.
func around(kids ...api.Node) []api.Node {
	a, b, c := kids[0], kids[1%len(kids)], kids[2%len(kids)]
	out := one(kindOf(api.ExNot, a), kindOf(api.ExIs, a), api.Node{Kind: api.ExIs, N: 1, Kids: one(a)}, kindOf(api.ExCase, a, b, c), kindOf(api.ExCase, b, c, a), kindOf(api.ExCase, c, a, b))
	for _, mark := range marks[:8] {
		out = append(out, marked(a, mark, b), marked(b, mark, a))
	}
	return out
}

// P10.2: each kind and each mark, alone and over kids that are total and not.
func TestTotal(t *testing.T) {
	for _, n := range totals() {
		totalIs(t, n, true)
		for _, o := range totals() {
			for _, x := range around(n, o, truth(0)) {
				totalIs(t, x, true)
			}
		}
		for _, x := range one(kindOf(api.ExNeg, n), marked(n, "+", n), marked(n, "||", n), asking(api.ExIn, smallPlan(n), n), asking(api.ExExists, smallPlan(n)), asking(api.ExScalar, smallPlan(n))) {
			totalIs(t, x, false)
		}
	}
	for _, n := range partials() {
		totalIs(t, n, false)
		for _, o := range totals() {
			for _, x := range around(n, o, truth(0)) {
				totalIs(t, x, false)
				totalIs(t, kindOf(api.ExNot, marked(truth(1), "or", kindOf(api.ExIs, x))), false)
			}
		}
	}
}

// P10.2, of what layer 10 makes of texts.
func TestTotalOfTexts(t *testing.T) {
	w := ours()
	for s, want := range map[string]bool{
		"null": true, "true": true, "1": true, "'a'": true, "bare": true, ":i": true, "-bare": false, "not b": true, "b is null": true, "b is not null": true,
		"b or last": true, "b and last": true, "bare = 1": true, "bare <> 1": true, "bare < 1": true, "bare <= 1": true, "bare > 1": true, "bare >= 1": true,
		"bare + 1": false, "bare - 1": false, "bare * 1": false, "bare / 1": false, "bare % 1": false, "s || 'a'": false,
		"case when b then 1 else 2 end": true, "case when b then 1 else -2 end": false, "case when -1 = 1 then 1 else 2 end": false,
		"exists (select 1 as x)": false, "(select 1 as x)": false, "1 in (select 1 as x)": false, "1 not in (select 1 as x)": false,
		"not (bare = 1 and (s is null or :b))": true, "not (bare = 1 and (s || 'a' is null or :b))": false,
	} {
		n, err := algebra.Node(w.c, w.vars, w.cols, readExpr(t, s))
		if err != api.OK {
			t.Fatal(s, err)
		}
		totalIs(t, n, want)
	}
}

// "All nodes in it" are those in plans, too, where a kind that is total has some, which no expression's node has.
func TestTotalOfOddNodes(t *testing.T) {
	for _, n := range partials() {
		for _, p := range []api.Plan{smallPlan(n), {Aggs: one(api.Gather{E: one(n)})}, {Kids: one(api.Plan{}, smallPlan(at(0), n))}} {
			totalIs(t, asking(api.ExNot, p, at(1)), false)
		}
	}
	totalIs(t, asking(api.ExNot, smallPlan(totals()...), at(1)), true)
	totalIs(t, api.Node{Kind: api.ExBin, S: "="}, true)
	totalIs(t, kindOf(api.ExCol, kindOf(api.ExNeg)), false)
	totalIs(t, kindOf(api.ExNull, totals()...), true)
}

func usesAre(t *testing.T, n api.Node, want ...int) {
	t.Helper()
	kept := copied(n)
	got := algebra.Uses(n)
	if !slices.Equal(got, want) {
		t.Errorf("%s: %v, want %v", nodeTold(n), got, want)
	}
	if !same(n, kept) || !ownMemory(got, n) {
		t.Errorf("%s is changed, or shared", nodeTold(n))
	}
}

// P10.3: rising, each once, of all kinds of nodes, but none of plans.
func TestUses(t *testing.T) {
	for _, n := range one(api.Node{}, api.Node{Kind: api.ExNull}, truth(1), constant(5), api.Node{Kind: api.ExText, S: "x"}, varNode("v"), marked(constant(1), "+", varNode("v")), kindOf(16), kindOf(-1)) {
		usesAre(t, n)
	}
	usesAre(t, at(0), 0)
	usesAre(t, at(7), 7)
	usesAre(t, at(-3), -3)
	usesAre(t, marked(at(5), "=", at(5)), 5)
	usesAre(t, marked(at(5), "+", at(2)), 2, 5)
	usesAre(t, kindOf(api.ExCase, at(9), marked(at(2), "||", at(9)), kindOf(api.ExNeg, at(0))), 0, 2, 9)
	usesAre(t, asking(api.ExIn, smallPlan(at(4)), at(1)), 1)
	usesAre(t, asking(api.ExExists, smallPlan(at(4))))
	usesAre(t, asking(api.ExScalar, smallPlan(at(4))))
	usesAre(t, marked(asking(api.ExScalar, api.Plan{Aggs: one(api.Gather{E: one(at(8))}), Keys: one(6), Kids: one(smallPlan(at(3)))}), "-", at(2)), 2)
	usesAre(t, kindOf(api.ExNot, kindOf(api.ExNot, asking(api.ExIn, smallPlan(at(4)), marked(at(3), "or", kindOf(api.ExIs, at(1)))))), 1, 3)
	for kind := -1; kind < 18; kind++ {
		if kind != api.ExCol {
			usesAre(t, api.Node{Kind: kind, N: 3, S: "x", Kids: one(at(6), constant(4), at(1)), Plans: one(smallPlan(at(9)))}, 1, 6)
		}
	}
	usesAre(t, kindOf(api.ExCol, at(2)), 0, 2)
	usesAre(t, kindOf(api.ExAgg, numbered(50, func(i int) api.Node { return at((i * 7) % 20) })...), numbered(20, func(i int) int { return i })...)
}

// P10.3 a second way: of the text of a node, with what stands in its plans taken out.
func TestUsesOfMade(t *testing.T) {
	w, m, some := ours(), ourMaker(103, 0), 0
	for range 3000 {
		n, err := algebra.Node(w.c, w.vars, w.cols, m.expr(env{all: w.cols, named: w.cols[:4]}, m.kind(), 1+m.rnd.Intn(5)))
		if err != api.OK {
			continue
		}
		deep, s := 0, ""
		for _, r := range nodeTold(n) {
			switch r {
			case '{':
				deep++
			case '}':
				deep--
			}
			if deep == 0 {
				s += string(r)
			}
		}
		var want []int
		for i := range w.cols { // no place has two digits
			if strings.Contains(s, fmt.Sprint("#", i)) {
				want = append(want, i)
			}
		}
		usesAre(t, n, want...)
		if len(want) > 1 {
			some++
		}
	}
	if some < 300 {
		t.Errorf("just %d use more than one column", some)
	}
}

// P1: as many parts within one another as the document promises, each call of them ends.
func TestDeep(t *testing.T) {
	const deep = 1 << 16
	n := at(1)
	for i := range deep - 1 {
		n = kindOf([]int{api.ExNot, api.ExIs, api.ExCase}[i%3], n)
	}
	if !algebra.Total(n) || !slices.Equal(algebra.Uses(n), one(1)) {
		t.Error("a deep node")
	}
	for _, kind := range []int{api.PlSelect, api.PlLimit, api.PlDistinct, api.PlOrder, api.PlGroup, api.PlJoin, 0} {
		p := api.Plan{Kind: api.PlScan, Width: 1}
		for i := range deep - 1 {
			p = api.Plan{Kind: kind, N: i + 5, E: one(at(0))[:(i+1)%2], Kids: one(p), Width: 1}
		}
		p = algebra.Norm(p)
		long := 0
		for ; len(p.Kids) > 0; p = p.Kids[0] {
			long++
		}
		if want := map[int]int{api.PlLimit: 1, api.PlDistinct: 1, api.PlOrder: deep / 2}[kind]; want > 0 && long != want || want == 0 && long != deep-1 {
			t.Errorf("%s: %d", planNames[kind], long)
		}
	}
	chain := api.Plan{Kind: api.PlScan, Width: 1}
	for range deep / 2 {
		chain = api.Plan{Kind: api.PlJoin, E: one(truth(1)), Kids: one(chain, api.Plan{Kind: api.PlOne}), Width: 1}
	}
	p := algebra.Norm(api.Plan{Kind: api.PlSelect, E: one(at(0)), Kids: one(chain), Width: 1})
	for range deep / 2 {
		p = p.Kids[0]
	}
	if planTold(p) != "select/1[#0](scan/1)" {
		t.Error("a deep chain of joins")
	}
}

// P1: whatever is handed in is answered, and stays as it is.
func TestAnyNodes(t *testing.T) {
	rnd := rand.New(rand.NewSource(102))
	for range 20000 {
		n := oddNode(rnd, 4)
		kept := copied(n)
		algebra.Total(n)
		algebra.Uses(n)
		if !same(n, kept) {
			t.Fatalf("%s is changed", nodeTold(kept))
		}
	}
}
