package flow_test

import (
	"fmt"
	"strings"
	"testing"

	"cordon/api"
	"cordon/flow"
)

func TestParameters(t *testing.T) {
	benchOf("").checks(t,
		"proc p() { skip; } | call p();", "",
		"proc p(n int, m int) { skip; } | call p(1, 2);", "",
		"proc p(n int, m int) { skip; } | call p(:va, 2);", "p[n a]",
		"proc p(n int, m int) { skip; } | call p(:va, :vb);", "p[n a, m b]",
		"proc p(n int, m int) { skip; } | call p(:va, 1); call p(:vb, :l); call p(1, :vb);", "p[n high, m b]",
		"proc p(n int, m int) { skip; } | if :va > 0 { call p(1, :vb); }", "p[at a, n a, m high]",
		"proc p(n int, m int) { skip; } | call p(-:va, 1);", "p[at a, n a, m a]; [raises a]",
		"proc p(n int, m int) { skip; } | call p(1, -1);", "[raises low]",
		"proc p(n bool, m int) { skip; } | call p("+quiet+", :vb);", "p[at a, n a, m high]; [raises a]",
		"proc p(n int, m int) { skip; } | call p("+mixed+", 1);", "p[at a, n high, m a]; [raises a]",
		"proc p(n int) { var x int; set x = :n; } | call p(:va);", "p[n a, x a]",
		"proc p(n int) { var x int; set n = :x; set x = :n; input n; } | call p(1);", "",
		"proc p(n int) { var x int; set n = :n + 1; } | call p(:va);", "p[n a, raises a]; [raises a]",
		"proc p(n int) { for n in select ib as x from t { skip; } } | call p(:va);", "p[n high]",
		"proc p(l int) { skip; } | set l = :va; call p(1);", "[l a]",
		"proc p(va int) { skip; } | call p(1);", "",
	)
}

func TestEntry(t *testing.T) {
	benchOf("").checks(t,
		"proc p() { print out 1; } | call p();", "",
		"proc p() { print out 1; print ca 1; } | if :va > 0 { call p(); }", "p[at a]; print: print out 1",
		"proc p() { print out 1; print ca 1; } | if :va > 0 { call p(); } if :vb > 0 { call p(); } call p();", "p[at high]; print: print out 1; print: print ca 1",
		"proc p() { var x int; input x; } | if :va > 0 { call p(); }", "p[at a, x a]; input: input x",
		"proc p() { begin; } | if :va > 0 { call p(); } else { call p(); }", "p[at a]; saved: begin",
		"proc p() { call q(); } proc q() { call r(); } proc r() { print out 1; } | if :va > 0 { call p(); }", "p[at a]; q[at a]; r[at a]; print: print out 1",
		"proc r() { print out 1; } proc q() { call r(); } proc p() { call q(); } | if :va > 0 { call p(); }", "r[at a]; q[at a]; p[at a]; print: print out 1",
		"proc p() { if true { skip; } else { call q(); } } proc q() { skip; } | while :va > 0 { call p(); }", "p[at a]; q[at a]; loops a",
		"proc p() { skip; } | for l in select i as x from t where pa { try { raise; } catch { call p(); } }", "p[at a]; [l a]",
		"proc p() { skip; } | print ca -:va; call p();", "p[at a]; [raises a]",
		"proc p() { skip; } | try { print ca -:va; } catch { call p(); }", "p[at a]",
		"proc p() { skip; } | try { print ca -:va; } catch { skip; } call p();", "",
	)
}

// Procedures that none calls stand at Bottom, and what they do counts.
func TestNeverCalled(t *testing.T) {
	benchOf("").checks(t,
		"proc p(n int) { print out :n; } | skip;", "",
		"proc p(n int) { if :n > 0 { raise; } } | skip;", "p[raises low]",
		"proc p() { var x int; for x in select ia as x from t { print out :x; } } | skip;", "p[x a]; print: print out :x",
		"proc p() { var x int; for x in select ia as x from t { while :x > 0 { call q(:x); } } } proc q(n int) { print out 1; } | skip;", "p[x a]; q[at a, n a]; loops a; print: print out 1",
		"proc p() { var x int; for x in select ia as x from t { if :x > 0 { call q(); } } } proc q() { raise; } | call q(); print out 1;", "p[x a, raises a]; q[at a, raises a]; [raises a]; print: print out 1",
	)
}

func TestProcedureRaises(t *testing.T) {
	benchOf("").checks(t,
		"proc p() { raise; } | call p(); print out 1;", "p[raises low]; [raises low]",
		"proc p() { skip; } | if :va > 0 { call p(); } print out 1;", "p[at a]",
		"proc p() { raise; } | if :va > 0 { call p(); } print out 1;", "p[at a, raises a]; [raises a]; print: print out 1",
		"proc p(n int) { if :n > 0 { raise; } } | call p(:va); print out 1; print ca 1;", "p[n a, raises a]; [raises a]; print: print out 1",
		"proc p(n int) { try { if :n > 0 { raise; } } catch { skip; } } | call p(:va); print out 1;", "p[n a]",
		"proc p() { raise; } | if :va > 0 { try { call p(); } catch { skip; } } call p(); print out 1;", "p[at a, raises a]; [raises a]; print: print out 1",
		"proc p() { raise; } | try { call p(); } catch { print out 1; }", "p[raises low]",
		"proc p(n int) { print ca -:n; } | call p(:va); print cb 1;", "p[n a, raises a]; [raises a]; print: print cb 1",
		"proc p(n int) { skip; } | call p(-:va); print out 1;", "p[at a, n a]; [raises a]; print: print out 1",
		"proc p(n int) { if :n > 0 { raise; } } | call p(:vb); call p(-:va);", "p[at high, n high, raises high]; [raises high]",
		"proc p() { call q(); } proc q() { call r(); } proc r() { raise; } | call p();", "p[raises low]; q[raises low]; r[raises low]; [raises low]",
		"proc p() { var x int; for x in select ia as x from t { if :x > 0 { raise; } } } | while true { print out 1; call p(); }", "p[at a, x a, raises a]; [raises a]; loops a; print: print out 1",
	)
}

func TestRecursion(t *testing.T) {
	benchOf("").checks(t,
		"proc p() { call p(); } | call p();", "",
		"proc p() { call p(); raise; } | call p();", "p[raises low]; [raises low]",
		"proc p() { call p(); } | if :va > 0 { call p(); }", "p[at a]; loops a",
		"proc p(n int) { if :n > 0 { call p(:n); } } | call p(:va);", "p[at a, n a]; loops a",
		"proc p(n int) { if true { skip; } else { if :n > 0 { call p(:n); } } } | call p(:va);", "p[at a, n a]; loops a",
		"proc p(n int) { if :n > 0 { call p(:n - 1); } } | call p(:va);", "p[at a, n a, raises a]; [raises a]; loops a",
		"proc p(n int, m int) { call p(:m, :n); } | call p(:va, 1);", "p[n a, m a]",
		"proc p(n int, m int, o int) { call p(:m, :o, 1); } | call p(1, 2, :va);", "p[n a, m a, o a]",
		"proc p(n int, m int, o int) { call p(1, :n, :m); } | call p(:va, 2, 3);", "p[n a, m a, o a]",
		// by one way of calls, and by several
		"proc p(n int) { call q(:n); } proc q(n int) { if :n > 0 { call p(:n); } } | call p(:va);", "p[at a, n a]; q[at a, n a]; loops a",
		"proc p(n int) { call q(:n); call r(:n); } proc q(n int) { call p(1); } proc r(n int) { call s(:n); } proc s(n int) { if :n > 0 { call p(2); } } | call p(:va);",
		"p[at a, n a]; q[at a, n a]; r[at a, n a]; s[at a, n a]; loops a",
		"proc p() { call q(); raise; } proc q() { call r(); } proc r() { call p(); } | if :vb > 0 { call r(); }", "p[at b, raises b]; q[at b, raises b]; r[at b, raises b]; [raises b]; loops b",
		"proc p() { var l int; if true { while true { for l in select 1 as x { try { skip; } catch { call p(); } } } } } | skip;", "",
	)
}

// Loops: where blocks of while stand, and where procedures are called that are called by themselves; and nothing else.
func TestLoops(t *testing.T) {
	benchOf("").checks(t,
		"proc p() { skip; } proc q() { call q(); } | if :va > 0 { call p(); } call q();", "p[at a]",
		"proc p() { skip; } proc q() { call q(); } | if :va > 0 { call q(); } call p();", "q[at a]; loops a",
		"proc p() { call q(); } proc q() { call r(); } proc r() { call q(); } | call p(); if :va > 0 { call p(); }", "p[at a]; q[at a]; r[at a]; loops a",
		"proc p() { skip; } proc q() { call p(); call q(); } | call q(); if :va > 0 { call p(); }", "p[at a]",
		"proc p(n int) { call p(:n); } | call p(-:va);", "p[at a, n a]; [raises a]; loops a",
		"proc p() { call p(); } | while :va > 0 { skip; } if :vb > 0 { call p(); }", "p[at b]; loops high",
		"proc p() { call p(); } proc q() { call q(); } | if :va > 0 { call p(); } if :vb > 0 { call q(); }", "p[at a]; q[at b]; loops high",
		"proc p() { while true { skip; } } | if :va > 0 { call p(); }", "p[at a]; loops a",
		"proc p() { while true { skip; } } | call p();", "",
		"if :va > 0 { skip; } for l in select i as x from t where pa { skip; }", "[l a]",
		"while :va > 0 { skip; }", "loops a",
		"while true { while :va > 0 { skip; } }", "loops a",
		"while true { raise; }", "[raises low]",
		"print ca -:va; while true { skip; }", "[raises a]; loops a",
		"proc p(n int) { call q(:n); } proc q(n int) { if :n > 0 { call p(:n); } } | call q(:vb);", "p[at b, n b]; q[at b, n b]; loops b",
	)
}

// A variable's level has all that is set to it anywhere in it, also what comes later, or just in a loop.
func TestVariables(t *testing.T) {
	benchOf("").checks(t,
		"var x int; | print out :x; set x = :va;", "[x a]; print: print out :x",
		"var x int; var y int; var z int; | set x = :y; set y = :z; set z = :va;", "[x a, y a, z a]",
		"var x int; var y int; var z int; | while true { set x = :y; set y = :z; set z = :va; set z = :vb; }", "[x high, y high, z high]",
		"var x int; var y int; | if :x > 0 { set y = 1; } set x = :va;", "[x a, y a]",
		"var x int; var y int; | while :x > 0 { set y = 1; } set x = :va;", "[x a, y a]; loops a",
		"var x int; var y int; | set y = -:x; set x = :va; print out 1;", "[x a, y a, raises a]; print: print out 1",
		"var x int; var y int; var z int; | set z = 1; if :y > 0 { set x = -1; } set y = :va; set z = 2;", "[x a, y a, z a, raises a]",
		"var x int; | input x; set x = :va; for x in select ib as y from t { skip; }", "[x high]",
		"var x int; | for x in select ia as y from t { input x; }", "[x a]",
		"var x int; | for x in select i as y from t where pa { input x; }", "[x a]; input: input x",
		"var x int; proc p(x int) { set x = :x; } | set x = :va; call p(:vb);", "p[x b]; [x a]",
	)
}

// Reversed, so that each time something is known of one variable, or one procedure, more alone.
func TestFarAway(t *testing.T) {
	const n = 60
	var vars, sets, procs strings.Builder
	for i := range n {
		fmt.Fprintf(&vars, "var x%d int; ", i)
		fmt.Fprintf(&sets, "set x%d = :x%d; ", i, i+1)
		fmt.Fprintf(&procs, "proc p%d(m int) { ", i)
		if i > 0 {
			fmt.Fprintf(&procs, "call p%d(:m); ", i-1)
		}
		procs.WriteString("} ")
	}
	fmt.Fprintf(&vars, "var x%d int; ", n)
	fmt.Fprintf(&sets, "set x%d = :va; if :va > 0 { call p%d(:vb); } ", n, n-1)
	for _, c := range benchOf("") {
		v := flow.Check(c, programOf(t, c, withPreamble(vars.String()+procs.String()+" | "+sets.String())))
		check(t, "the first variable", nameOf(c, v.Vars[n][4]), "a")
		check(t, "the first procedure", nameOf(c, v.Entry[0])+" "+nameOf(c, v.Vars[0][0]), "a high")
		check(t, "what it raises", v.Can[0], false)
	}
}

// Lattices of one level, and of two.
func TestFewLevels(t *testing.T) {
	const tables = "channel out L; table t rows L (a int L, b int null L) key (a) hide L when a = 1;"
	const text = "var x int; var y int; proc p(n int) { insert into t values (:n, :n); if :n > 0 { call p(:n); } } for x, y in select a as x, b as y from t where b > 0 { print out :x; input y; begin; update t set b = -b where b > :y; delete from t; raise; } while :y > 0 { print out -:y; call p(:x); } commit;"
	for _, w := range [][2]string{
		{"levels one;" + strings.ReplaceAll(tables, "L", "one"), "p[raises one]; [raises one]"},
		{"levels low, high; order low < high;" + strings.ReplaceAll(tables, "L", "low"), "p[raises low]; [raises low]"},
		{"levels high, low; order low < high;" + strings.ReplaceAll(tables, "L", "low"), "p[raises low]; [raises low]"},
	} {
		c := catalogOf(w[0])
		p := programOf(t, c, text)
		check(t, w[0], verdictTold(c, text, p, flow.Check(c, p)), w[1])
	}
	for _, levels := range []string{"levels low, high;", "levels high, low;"} {
		c := catalogOf(levels + "order low < high;" + strings.ReplaceAll(tables, "L", "high"))
		p := programOf(t, c, text)
		check(t, levels, verdictTold(c, text, p, flow.Check(c, p)), "p[at high, n high, raises high]; [x high, y high, raises high]; loops high; input: input y")
	}
}

// Without a catalog, and of one that no call made, there is nothing.
func TestNoCatalog(t *testing.T) {
	for _, c := range benchOf("") {
		p := programOf(t, c, withPreamble("while :va > 0 { print out 1; raise; }"))
		for _, nobody := range nobodies() {
			v := flow.Check(nobody, p)
			if len(v.Diags)+len(v.Vars)+len(v.Entry)+len(v.Raise)+len(v.Can) > 0 || v.Loops != 0 {
				t.Errorf("without a catalog %+v", v)
			}
			check(t, "columns without a catalog", len(flow.Nulls(nobody, planOf(t, c, "select i as x, 1 as y from t"))), 0)
		}
		v := flow.Check(c, api.Program{})
		if len(v.Diags)+len(v.Vars)+len(v.Entry)+len(v.Raise)+len(v.Can) > 0 || v.Loops != c.Lattice().Bottom() {
			t.Errorf("without procedures %+v", v)
		}
	}
}
