package derive_test

import (
	"fmt"
	"strings"
	"testing"

	"cordon/api"
	"cordon/derive"
)

// The values that are handed in, and where procedures are called, stand below theirs.
func TestCall(t *testing.T) {
	b := benchOf("")
	b.proofs(t, "proc p() { skip; } | call p();", "+ p.0.pc=a", "- p.entry=a", "+ p.entry=a p.0.pc=a", "- 1.pc=a", "- 1.pc=a p.0.pc=a", "- 1.pc=a p.entry=a", "+ 1.pc=a p.entry=a p.0.pc=a", "+ p.raise=high", "- p.can=true", "- p.can=true 1.can=true", "+ p.can=true 1.can=true can=true", "+ 1.can=true can=true",
		"- p.can=true p.raise=a 1.can=true can=true", "- p.can=true p.raise=a 1.can=true 1.raise=b can=true raise=high", "+ p.can=true p.raise=a 1.can=true 1.raise=a can=true raise=a",
		"- p.0.can=true", "- p.0.can=true p.can=true", "+ p.0.can=true p.can=true 1.can=true can=true", "- p.0.can=true p.0.raise=a p.can=true 1.can=true can=true", "+ p.0.can=true p.0.raise=a p.can=true p.raise=a 1.can=true 1.raise=a can=true raise=a")
	b.proofs(t, "proc p(n int, m int) { skip; } | call p(:va, 1);", "- p.n=low", "- p.n=b", "+ p.n=high", "+ p.m=high", "- va=high", "+ va=high p.n=high", "- 1.pc=b", "- 1.pc=b p.entry=b p.0.pc=b", "- 1.pc=b p.entry=b p.0.pc=b p.n=high", "- 1.pc=b p.entry=b p.0.pc=b p.m=b", "+ 1.pc=b p.entry=b p.0.pc=b p.n=high p.m=b", "+ 1.raise=high")
	b.proofs(t, "proc p(n int, m int) { skip; } | call p(-:va, 1);", "- 1.raise=low", "- 1.can=false can=false", "- p.entry=low", "- p.entry=low p.0.pc=low", "- p.0.pc=low", "- p.n=low", "- p.m=low", "- p.entry=b p.0.pc=b", "+ p.entry=high p.0.pc=high", "+ 1.raise=high raise=high")
	b.proofs(t, "proc p(n bool, m int) { skip; } | call p("+quiet+", :vb);", "- p.entry=low", "- p.n=low", "- p.m=b", "- p.m=a", "- 1.raise=low")
	b.proofs(t, "proc p(n int, m int) { skip; } | call p("+mixed+", 1);", "- p.n=a", "- p.m=low", "- p.entry=low", "+ p.m=high")
	b.proofs(t, "proc p(n int) { print ca :n; } | if :va > 0 { call p(1); }", "- p.n=low", "- p.entry=low", "- p.entry=low p.0.pc=low", "- p.0.pc=low", "- 1.b0.pc=low", "- p.n=high", "- p.entry=high p.0.pc=high")
	b.proofs(t, "proc p(n int) { var x int; set x = :n; } | call p(:va);", "- p.x=low", "+ p.x=high", "- p.n=low", "- p.n=low p.x=low", "+ p.n=high p.x=high", "- p.n=high")
	b.refused(t, "proc p(n int) { print out :n; } | call p(:va);", "proc p() { print out 1; } | if :va > 0 { call p(); }", "proc p(n int) { print out 1; } | call p(-:va);", "proc p() { var x int; input x; } | if :va > 0 { call p(); }", "proc p() { begin; } | while :va > 0 { call p(); }")
}

// A procedure's Can and Raise against those of its rules, and against what its calls raise.
func TestProcedureRaises(t *testing.T) {
	b := benchOf("")
	b.proofs(t, "proc p() { raise; } | call p();", "- p.can=false", "- p.can=false 1.can=false can=false", "- 1.can=false", "- can=false", "- p.0.can=false", "- p.raise=a", "- p.raise=a 1.raise=a", "+ p.raise=a 1.raise=a raise=a", "- p.0.raise=a", "+ p.0.raise=a p.raise=a 1.raise=a raise=a", "+ 1.raise=a raise=a")
	b.proofs(t, "proc p(n int) { if :n > 0 { raise; } } | call p(:va); print ca 1;", "- p.raise=low", "- p.raise=b", "- p.raise=low 1.raise=low raise=low 2.pc=low", "- 1.raise=low", "- 2.pc=low", "- p.0.raise=low", "- p.0.b0.raise=low", "- p.raise=high", "- p.raise=high 1.raise=high raise=high 2.pc=high")
	b.proofs(t, "proc p() { skip; raise; skip; } | try { call p(); } catch { print out 1; }", "- p.can=false", "- 1.b0.can=false", "- p.2.pc=high p.1.raise=high", "- p.1.raise=a p.2.pc=a p.raise=a 1.b0.raise=a", "- p.1.raise=a p.2.pc=a", "- p.0.can=true p.0.raise=a", "+ p.0.can=true", "+ p.2.can=true", "- p.2.can=true p.2.raise=a", "+ p.2.raise=a")
	b.proofs(t, "proc p() { try { raise; } catch { skip; } } | call p(); print out 1;", "- p.can=true", "- p.can=true 1.can=true", "+ p.can=true 1.can=true can=true", "+ p.raise=a", "- p.can=true p.raise=a 1.can=true 1.raise=a can=true raise=a")
	b.proofs(t, "proc p() { call q(); } proc q() { raise; } | if :va > 0 { call p(); }", "- p.raise=low", "- q.raise=low", "- p.0.raise=low", "- q.0.raise=low", "- 1.b0.raise=low", "- 1.raise=low", "- raise=low", "- p.can=false", "- q.can=false", "- q.entry=low", "- p.entry=low", "- q.raise=high", "+ q.raise=high p.0.raise=high p.raise=high 1.b0.raise=high 1.raise=high raise=high")
	b.refused(t, "proc p(n int) { if :n > 0 { raise; } } | call p(:va); print out 1;", "proc p() { raise; } | if :va > 0 { call p(); } print out 1;", "proc p(n int) { print ca -:n; } | call p(:va); print cb 1;")
}

// Procedures that are called at several levels.
func TestSeveralCalls(t *testing.T) {
	b := benchOf("")
	b.proofs(t, "proc p(n int) { print ch :n; } | call p(:va); call p(:vb); call p(1);", "- p.n=a", "- p.n=b", "- p.n=low", "+ p.entry=a p.0.pc=a", "- 3.pc=a", "+ 3.pc=a p.entry=a p.0.pc=a")
	b.proofs(t, "proc p() { print ch 1; } | if :va > 0 { call p(); } if :vb > 0 { call p(); } call p();", "- p.entry=a p.0.pc=a", "- p.entry=b p.0.pc=b", "- p.entry=low p.0.pc=low", "- p.entry=a", "- p.0.pc=a")
	b.proofs(t, "proc p() { raise; } | if :va > 0 { try { call p(); } catch { skip; } } call p(); print ca 1;", "- p.entry=low", "- p.raise=low", "- 2.raise=low", "- 3.pc=low")
	b.refused(t, "proc p() { raise; } | if :va > 0 { try { call p(); } catch { skip; } } call p(); print out 1;", "proc p() { print ca 1; } | if :va > 0 { call p(); } if :vb > 0 { call p(); }")
}

// Procedures that call themselves, and each other, and such as none calls.
func TestRecursion(t *testing.T) {
	b := benchOf("")
	b.proofs(t, "proc p(n int) { if :n > 0 { call p(:n); } } | call p(:va);", "- p.entry=low", "- p.n=low", "- p.0.pc=low", "- p.0.b0.pc=low", "- p.can=true", "+ p.can=true p.0.b0.can=true p.0.b0.raise=a p.0.can=true p.0.raise=a p.raise=a 1.can=true 1.raise=a can=true raise=a", "- p.can=true p.0.b0.can=true p.0.can=true 1.can=true can=true",
		"- p.n=high", "- p.n=high p.0.b0.pc=high", "+ p.n=high p.0.b0.pc=high p.entry=high p.0.pc=high")
	b.proofs(t, "proc p(n int, m int) { call p(:m, :n); } | call p(:va, 1);", "- p.n=low", "- p.m=low", "- p.m=high", "+ p.n=high p.m=high", "- p.entry=a", "+ p.entry=a p.0.pc=a", "- p.0.pc=a")
	b.proofs(t, "proc p() { call q(); raise; } proc q() { call r(); } proc r() { call p(); } | if :vb > 0 { call r(); }", "- p.entry=low", "- q.entry=low", "- r.entry=low", "- p.raise=low", "- q.raise=low", "- r.raise=low", "- r.can=false", "- q.can=false", "- p.can=false", "- q.raise=high", "- p.raise=high", "- p.1.pc=low")
	b.proofs(t, "proc p() { print out 1; } proc q(n int) { raise; } | skip;", "- p.entry=a", "- p.entry=a p.0.pc=a", "- q.can=false", "+ q.n=high", "+ q.entry=a q.0.pc=a q.0.raise=a q.raise=a", "- q.entry=a q.0.pc=a", "+ p.can=true p.raise=high", "+ q.raise=high")
	b.refused(t, "proc p(n int) { if :n > 0 { call p(:n); } print out 1; } | call p(:va);", "proc p() { var x int; for x in select ia as x from t { print out :x; } } | skip;")
}

// The script itself may be taken to be called higher than at Bottom, where all that it does may.
func TestEntry(t *testing.T) {
	b := benchFrom(order + "channel out low; channel ca a; table t rows a (x int null a);")
	b.whole(t, "", "+ entry=high", "+ raise=high", "+ can=true", "+ entry=a can=true raise=b")
	b.whole(t, "var x int; set x = 1;", "- entry=a", "- entry=a 0.pc=a", "+ entry=a 0.pc=a x=a", "- entry=a 0.pc=b x=b", "+ entry=a 0.pc=high x=high")
	b.whole(t, "print ca 1;", "+ entry=a 0.pc=a", "- entry=b 0.pc=b", "- entry=a")
	b.whole(t, "print out 1;", "- entry=a 0.pc=a", "- entry=a")
	b.whole(t, "raise;", "- entry=a 0.pc=a", "+ entry=a 0.pc=a 0.raise=a raise=a", "- entry=a 0.pc=a 0.raise=a")
	b.whole(t, "begin; commit;", "+ entry=a 0.pc=a 1.pc=a", "- entry=a 0.pc=a", "- entry=a 1.pc=a", "- entry=b 0.pc=b 1.pc=b")
	b.whole(t, "if true { skip; }", "- entry=a 0.pc=a", "+ entry=a 0.pc=a 0.b0.pc=a")
}

// Variables, and how far what is in them goes.
func TestVariables(t *testing.T) {
	b := benchOf("")
	b.proofs(t, "var x int; var y int; | set x = :y; set y = :va;", "- x=low", "- y=low", "- x=low y=low", "+ x=high", "- y=high", "+ x=high y=high")
	b.proofs(t, "var x int; var y int; | if :x > 0 { set y = 1; } set x = :va;", "- y=low", "- x=low", "- 1.b0.pc=low", "- x=low y=low 1.b0.pc=low")
	b.proofs(t, "var x int; var y int; | set y = -:x; set x = :va;", "- 1.raise=low", "- 2.pc=low", "- y=low", "- x=low y=low 1.raise=low raise=low 2.pc=low")
	b.proofs(t, "var x int; proc p(x int) { set x = :x; } | set x = :va; call p(:vb);", "- x=low", "- p.x=low", "+ x=high", "- p.x=a", "+ p.x=high")
	b.refused(t, "var x int; | print out :x; set x = :va;", "var x int; var y int; | while true { print out :y; set y = :x; set x = :va; }")
}

// Lattices of one level, and of two.
func TestFewLevels(t *testing.T) {
	const tables = "channel out L; table t rows L (a int L, b int null L) key (a) hide L when a = 1;"
	const text = "var x int; var y int; proc p(n int) { insert into t values (:n, :n); if :n > 0 { call p(:n); } } for x, y in select a as x, b as y from t where b > 0 { print out :x; input y; begin; update t set b = -b where b > :y; delete from t; raise; } while :y > 0 { print out -:y; call p(:x); } commit;"
	for _, schema := range []string{
		"levels one;" + strings.ReplaceAll(tables, "L", "one"),
		"levels low, high; order low < high;" + strings.ReplaceAll(tables, "L", "low"),
		"levels high, low; order low < high;" + strings.ReplaceAll(tables, "L", "low"),
	} {
		c := catalogOf(schema)
		m := read(t, c, text)
		x := madeOf(t, c, m.p)
		for _, s := range spotsOf(m.p, &x) {
			if s.level != nil {
				check(t, s.name, *s.level, c.Lattice().Bottom())
			} else if *s.can {
				*s.can = false
				check(t, s.name, derive.Verify(c, m.p, x), false)
				*s.can = true
			}
		}
		check(t, "again", derive.Verify(c, m.p, x), true)
	}
	for _, levels := range []string{"levels low, high;", "levels high, low;"} {
		c := catalogOf(levels + "order low < high;" + strings.ReplaceAll(tables, "L", "high"))
		noProof(t, c, read(t, c, text))
		madeOf(t, c, programOf(t, c, strings.Replace(text, "input y;", "", 1)))
	}
}

// Without a catalog, and with one that no call made, nothing is made, and nothing is taken. Without procedures the proof is empty.
func TestNoCatalog(t *testing.T) {
	for _, c := range benchOf("") {
		p := programOf(t, c, withPreamble("print ca :va;"))
		x := madeOf(t, c, p)
		for _, nobody := range nobodies() {
			for _, q := range one(p, api.Program{}, api.Program{Procs: one(api.Code{})}) {
				y, ok := derive.Make(nobody, q)
				check(t, "made without a catalog", ok || !isNothing(y), false)
				check(t, "taken without a catalog", derive.Verify(nobody, q, x) || derive.Verify(nobody, q, api.Proof{}), false)
			}
		}
		empty := madeOf(t, c, api.Program{})
		check(t, "without procedures", isNothing(empty), true)
		check(t, "without procedures", derive.Verify(c, api.Program{}, api.Proof{}), true)
		check(t, "without procedures", derive.Verify(c, api.Program{}, x), false)
		check(t, "with procedures", derive.Verify(c, p, api.Proof{}), false)
	}
}

// What is known of one variable, or one procedure, goes a long way.
func TestFarAway(t *testing.T) {
	const n = 60
	var vars, sets, procs strings.Builder
	for i := range n {
		fmt.Fprintf(&vars, "var x%d int; ", i)
		fmt.Fprintf(&sets, "set x%d = :x%d; ", i, i+1)
		fmt.Fprintf(&procs, "proc p%d(m int) { ", i)
		if i > 0 {
			fmt.Fprintf(&procs, "call p%d(:m); ", i-1)
		}
		procs.WriteString("} ")
	}
	fmt.Fprintf(&vars, "var x%d int; ", n)
	fmt.Fprintf(&sets, "set x%d = :va; if :va > 0 { call p%d(:vb); } ", n, n-1)
	for _, c := range benchOf("") {
		p := programOf(t, c, withPreamble(vars.String()+procs.String()+" | "+sets.String()))
		x := madeOf(t, c, p)
		for _, edit := range one("x0=low", "x30=low", "p0.m=a", "p0.m=b", "p0.entry=low", "p30.entry=low", "p59.0.pc=low") {
			check(t, edit, derive.Verify(c, p, edited(t, c, p, x, edit)), false)
		}
		check(t, "higher", derive.Verify(c, p, edited(t, c, p, x, "x0=high p0.entry=high")), true)
	}
}
