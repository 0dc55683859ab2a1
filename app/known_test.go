package app_test

import (
	"fmt"
	"slices"
	"testing"

	"cordon/api"
	"cordon/app"
)

// freeScripts are some over base of which nothing may not flow.
func freeScripts() []string {
	return []string{
		"", "print out 1;", "print log (select max(b) as m from t);", "var x int; while :x > 0 { set x = :x - 1; } input x; print out :x;", "raise;", "begin; insert into n values (1); rollback;",
		"proc p(a int, b bool) { var c text; if :b { print out :a; call p(:a - 1, :a > 0); } } call p(3, true);", "var x int; for x in select i as i from s { set x = -:x; print log :x; raise; }",
		"proc p(a int) { print log :a; } proc q() { var z bool; set z = true; raise; } call p((select b as b from t limit 1)); try { call q(); } catch { print out 5; }", "insert into h values (1, 2); print log 3;",
	}
}

// refusedByFlow are some over base that are right, and of which something may not flow.
func refusedByFlow() []string {
	return []string{
		"print out (select max(b) as m from t);", "var x int; for x in select i as i from s { print out :x; begin; input x; insert into n values (:x); update h set v = :x; }", "insert into h values (1, 2); print out 3;",
		"proc p(a int) { print out :a; } proc q() { var z bool; set z = true; raise; } call p((select b as b from t limit 1)); try { call q(); } catch { print out 5; }", "while exists (select i as i from s) { commit; delete from s; }",
	}
}

// P24.2: of nil, and of what no call made.
func TestOfNobody(t *testing.T) {
	for i, a := range nobodies() {
		check(t, i, a.Accepted(), false)
		check(t, i, a.Catalog() == nil, true)
		check(t, i, isNothing(a.Verdict()), true)
	}
}

// P24.2: Accepted tells whether there is a Diag, and Catalog is what schema.New makes, whether it is accepted or not.
func TestAccepted(t *testing.T) {
	hold := func(text string, want bool) {
		a, notes := app.New(base, text)
		check(t, text, a.Accepted(), want)
		check(t, text, len(notes) == 0, want)
		check(t, text, len(a.Verdict().Diags) == 0, want)
		c, _ := parts(t, base, text)
		got := a.Catalog()
		check(t, text, fmt.Sprintf("%+v %+v %+v %d %v", got.Tables(), got.Channels(), got.Principals(), got.Limit(), got.Lattice().Levels()), fmt.Sprintf("%+v %+v %+v %d %v", c.Tables(), c.Channels(), c.Principals(), c.Limit(), c.Lattice().Levels()))
		check(t, text, a.Catalog() == got, true)
	}
	for _, text := range freeScripts() {
		hold(text, true)
	}
	for _, text := range refusedByFlow() {
		hold(text, false)
	}
}

// P24.2: a Verdict is that of layer 18 at the same schema and script.
func TestVerdict(t *testing.T) {
	for _, of := range []string{base, "principal p high; limit 7;" + base, "levels high, low; " + base[len("levels low, high; "):]} {
		for _, text := range slices.Concat(freeScripts(), refusedByFlow()) {
			a, _ := app.New(of, text)
			check(t, text, same(a.Verdict(), verdictOf(t, of, text)), true)
			check(t, text, isNothing(a.Verdict()), false)
		}
	}
	a, _ := app.New(base, "var x int; proc p(a int) { raise; } for x in select i as i from s { while true { call p(:x); } }")
	check(t, "a verdict", fmt.Sprintf("%+v", a.Verdict()), "{Diags:[] Vars:[[1] [1]] Entry:[1 0] Raise:[1 1] Can:[true true] Loops:1}")
	a, _ = app.New(base, "var x int; set x = 1; print out :x; print out (select max(b) as m from t);")
	check(t, "a verdict", fmt.Sprintf("%+v", a.Verdict()), "{Diags:[{At:36 Why:1}] Vars:[[0]] Entry:[0] Raise:[0] Can:[true] Loops:0}")
}

// bendVerdict changes all that a verdict's lists hold, and the room behind them.
func bendVerdict(v *api.Verdict) {
	for i := range v.Diags[:cap(v.Diags)] {
		v.Diags[:cap(v.Diags)][i] = api.Diag{At: -7, Why: 99}
	}
	for _, l := range append(slices.Clone(v.Vars), v.Entry, v.Raise) {
		for i := range l[:cap(l)] {
			l[:cap(l)][i] += 77
		}
	}
	for i := range v.Can {
		v.Can[i] = !v.Can[i]
	}
	for i := range v.Vars {
		v.Vars[i] = nil
	}
	v.Loops = 99
}

// What Verdict, and New, hand out can be changed without a change of the application.
func TestVerdictIsTheCallers(t *testing.T) {
	const rows = "1 5; 2 null | 3; 4 | 1 2; -1 3 | 7"
	for _, text := range slices.Concat(freeScripts(), refusedByFlow()) {
		a, notes := app.New(base, text)
		was, accepted := verdictOf(t, base, text), a.Accepted()
		before := answerOf(a.Run(tables(rows), one(4, 5), 300))
		first, second := a.Verdict(), a.Verdict()
		check(t, text, ownMemory(first, second, notes) && ownMemory(second, first, notes), true)
		bendVerdict(&first)
		for i := range notes {
			notes[i] = api.Note{Part: 9}
		}
		check(t, text, same(second, was), true)
		check(t, text, same(a.Verdict(), was), true)
		check(t, text, a.Accepted(), accepted)
		check(t, text, answerOf(a.Run(tables(rows), one(4, 5), 300)).same(before), true)
	}
	a, _ := app.New(base, "print out (select max(b) as m from t);")
	v := a.Verdict()
	v.Diags = nil
	check(t, "a Diag that was taken away", a.Accepted(), false)
	b := accepted(t, base, "print out 1;")
	v = b.Verdict()
	v.Diags = append(v.Diags, api.Diag{})
	check(t, "a Diag that was put there", b.Accepted(), true)
}
