package derive_test

import (
	"fmt"
	"strings"
	"testing"

	"cordon/api"
	"cordon/derive"
	"cordon/flow"
	"cordon/schema"
)

// The chapter's example, with and without more around it: of set x = 1 the proof with Bottom for all is one.
func TestExample(t *testing.T) {
	for _, levels := range append(orders, "levels one;", "levels low, high;", "levels high, low;") {
		text := levels + order
		switch {
		case strings.Contains(levels, "one"):
			text = levels
		case !strings.Contains(levels, "a"):
			text = levels + "order low < high;"
		}
		c := catalogOf(text)
		low := c.Lattice().Bottom()
		p := programOf(t, c, "var x int; set x = 1;")
		x := api.Proof{Vars: one(one(low)), Entry: one(low), Raise: one(low), Can: one(false), Procs: one(one(api.Rule{Pc: low, Raise: low}))}
		check(t, levels, derive.Verify(c, p, x), true)
		check(t, levels, fmt.Sprintf("%+v", madeOf(t, c, p)), fmt.Sprintf("%+v", x))
	}
}

func TestSet(t *testing.T) {
	b := benchOf("")
	b.proofs(t, "var x int; | set x = 1;", "+ x=a", "+ x=high", "+ 1.pc=a x=a", "- 1.pc=a", "- 1.pc=a x=b", "+ 1.pc=a x=high",
		"+ 1.raise=high", "- 1.can=true", "+ 1.can=true can=true", "- 1.can=true 1.raise=a can=true", "+ 1.can=true 1.raise=a can=true raise=a", "+ can=true raise=b", "+ raise=b")
	b.proofs(t, "var x int; | set x = :va;", "- x=low", "- x=b", "+ x=high", "+ 1.pc=a", "- 1.pc=b", "- 1.pc=high", "+ 1.pc=b x=high", "- va=low", "- va=b", "- va=high", "+ va=high x=high")
	b.proofs(t, "var x int; | set x = -1;", "- 1.can=false", "- 1.can=false can=false", "- can=false", "- 1.raise=a", "+ 1.raise=a raise=a", "- 1.pc=a x=a", "- 1.pc=a x=a 1.raise=b raise=b", "+ 1.pc=a x=a 1.raise=a raise=a")
	b.proofs(t, "var x int; | set x = -:va;", "- 1.raise=low", "- 1.raise=low raise=low", "- 1.raise=b raise=high", "- 1.raise=high", "+ 1.raise=high raise=high", "- 1.can=false", "- 1.can=false can=false raise=low", "- can=false", "- raise=low", "- raise=b", "+ raise=high",
		"- x=low", "+ 1.pc=a", "- 1.pc=b x=high", "- 1.pc=b x=high 1.raise=high", "+ 1.pc=b x=high 1.raise=high raise=high")
	b.proofs(t, "var x bool; | set x = "+quiet+";", "- x=low", "- x=b", "+ x=high", "- 1.raise=low", "- 1.raise=high", "+ 1.raise=high raise=high")
	b.proofs(t, "var x int; | set x = "+mixed+";", "- x=a", "- x=b", "- 1.raise=low", "+ 1.raise=high raise=high", "- va=low", "- vb=low")
	b.proofs(t, "var x int; | if :va > 0 { set x = 1; }", "- 1.b0.pc=low", "- 1.b0.pc=b", "- 1.b0.pc=high", "+ 1.b0.pc=high x=high", "- x=low", "- x=b", "+ 1.b0.raise=low", "+ 1.b0.raise=b")
	b.proofs(t, "var x int; | if :va > 0 { set x = -1; }", "- 1.b0.raise=low", "- 1.b0.raise=high", "- 1.b0.raise=high 1.raise=high", "+ 1.b0.raise=high 1.raise=high raise=high", "- 1.b0.can=false", "- 1.b0.can=false 1.can=false can=false", "+ 1.b0.pc=high x=high 1.b0.raise=high 1.raise=high raise=high")
}

func TestPrint(t *testing.T) {
	b := benchOf("")
	b.proofs(t, "print out 1;", "- 1.pc=a", "- 1.pc=b", "- 1.pc=high", "+ 1.raise=high", "+ 1.can=true can=true", "+ 1.can=true 1.raise=b can=true raise=b")
	b.proofs(t, "print ca 1;", "+ 1.pc=a", "- 1.pc=b", "- 1.pc=high")
	b.proofs(t, "print ch 1;", "+ 1.pc=a", "+ 1.pc=b", "+ 1.pc=high")
	b.proofs(t, "print ca :va;", "+ 1.pc=a", "- 1.pc=b", "- va=high", "- va=low")
	b.proofs(t, "print ch :va;", "+ 1.pc=b", "+ va=high")
	b.proofs(t, "print out -1;", "- 1.can=false can=false", "- can=false", "+ 1.raise=high raise=high", "- 1.raise=high")
	b.proofs(t, "print ca -:va;", "- 1.raise=low", "- 1.raise=b raise=high", "+ 1.raise=high raise=high", "- 1.can=false can=false", "- va=high", "+ 1.pc=a", "- 1.pc=high 1.raise=high raise=high")
	b.proofs(t, "print ca "+quiet+";", "- 1.raise=low raise=low", "+ 1.raise=high raise=high")
	b.proofs(t, "print ch "+mixed+";", "- 1.raise=low", "+ va=high 1.raise=high raise=high", "- va=high")
	b.refused(t, "print out :va;", "print cb :va;", "print out "+quiet+";", "print ca "+mixed+";", "if :va > 0 { print out 1; }", "print cb -:va;")
}

func TestInput(t *testing.T) {
	b := benchOf("")
	b.proofs(t, "var x int; | input x;", "+ x=a", "+ x=high", "- 1.pc=a", "- 1.pc=a x=a", "- 1.pc=high x=high", "+ 1.raise=a", "- 1.can=true", "+ 1.can=true can=true", "+ 1.can=true 1.raise=a can=true raise=a")
	b.proofs(t, "var x int; | skip; input x;", "+ 1.can=true can=true", "- 1.can=true 1.raise=a can=true raise=a", "- 1.can=true 1.raise=a can=true raise=a 2.pc=a", "- 1.can=true 1.raise=a can=true raise=a 2.pc=a x=a")
	b.refused(t, "var x int; | if :va > 0 { input x; }", "var x int; | print ca -:va; input x;")
}

func TestIf(t *testing.T) {
	b := benchOf("")
	b.proofs(t, "var x int; var y int; | if :va > 0 { set x = 1; } else { set y = 1; }", "- 1.b0.pc=low", "- 1.b0.pc=b", "- 1.e0.pc=low", "- 1.e0.pc=b", "- 1.b0.pc=high", "+ 1.b0.pc=high x=high", "- 1.e0.pc=high", "+ 1.e0.pc=high y=high",
		"+ 1.pc=a", "- 1.pc=b", "- 1.pc=b 1.b0.pc=high x=high", "+ 1.pc=b 1.b0.pc=high 1.e0.pc=high x=high y=high", "- va=high", "+ va=high 1.b0.pc=high 1.e0.pc=high x=high y=high",
		"- 1.b0.can=true", "- 1.b0.can=true 1.can=true", "+ 1.b0.can=true 1.can=true can=true", "- 1.e0.can=true", "+ 1.e0.can=true 1.can=true can=true", "- 1.b0.can=true 1.b0.raise=b 1.can=true can=true", "- 1.e0.can=true 1.e0.raise=b 1.can=true can=true raise=b", "+ 1.e0.can=true 1.e0.raise=b 1.can=true 1.raise=b can=true raise=b",
		"+ 1.can=true can=true", "+ 1.can=true 1.raise=high can=true raise=high")
	b.proofs(t, "var x int; | if -:va > 0 { set x = 1; }", "- 1.raise=low", "- 1.can=false can=false", "- can=false", "+ 1.raise=high raise=high", "- 1.b0.pc=low", "- x=low")
	b.proofs(t, "var x int; | if "+quiet+" { set x = 1; }", "- 1.b0.pc=low", "- x=low", "- 1.raise=low")
	b.proofs(t, "var x int; | if "+early+" { set x = 1; }", "- 1.raise=a", "+ 1.raise=a raise=a", "- 1.b0.pc=low")
	b.proofs(t, "if :va > 0 { raise; }", "- 1.raise=low", "- 1.raise=low raise=low", "- raise=low", "- 1.b0.raise=low", "- 1.b0.raise=low 1.raise=low raise=low", "- 1.b0.can=false", "- 1.can=false", "- can=false", "- 1.b0.raise=high", "+ 1.b0.raise=high 1.raise=high raise=high", "+ 1.raise=high raise=high")
	b.proofs(t, "if :va > 0 { skip; } else { raise; }", "- 1.raise=low", "- 1.e0.raise=low", "- 1.e0.can=false", "- 1.can=false", "+ 1.e0.raise=high 1.raise=high raise=high", "+ 1.b0.raise=high", "- 1.b0.can=true 1.b0.raise=high", "+ 1.b0.can=true 1.b0.raise=high 1.raise=high raise=high")
	// what it stands at is in what it raises, also where its block just claims to raise something
	b.proofs(t, "if :va > 0 { if true { skip; } }", "- 1.b0.b0.can=true 1.b0.can=true 1.can=true can=true", "- 1.b0.b0.can=true 1.b0.can=true 1.b0.raise=a 1.can=true can=true", "+ 1.b0.b0.can=true 1.b0.can=true 1.b0.raise=a 1.can=true 1.raise=a can=true raise=a", "+ 1.b0.can=true 1.can=true can=true")
	b.proofs(t, "var x int; | if :va > 0 { raise; set x = 1; } else { set x = 2; }", "- 1.b1.pc=low", "- x=low", "- 1.b0.raise=high 1.raise=high raise=high", "- 1.b0.raise=high 1.raise=high raise=high 1.b1.pc=high", "+ 1.b0.raise=high 1.raise=high raise=high 1.b1.pc=high x=high")
}

func TestWhile(t *testing.T) {
	b := benchOf("")
	b.proofs(t, "var x int; | while :va > 0 { set x = 1; }", "- 1.b0.pc=low", "- 1.b0.pc=b", "- x=low", "- 1.b0.pc=high", "+ 1.b0.pc=high x=high", "+ 1.pc=a", "- 1.pc=b", "+ 1.pc=b 1.b0.pc=high x=high", "+ 1.raise=high",
		"- 1.b0.can=true", "- 1.b0.can=true 1.can=true", "+ 1.b0.can=true 1.can=true can=true", // its block stands at a, but what it claims to raise is at low
		"- 1.b0.can=true 1.b0.raise=b 1.can=true 1.raise=b can=true raise=b", "+ 1.b0.can=true 1.b0.raise=b 1.b0.pc=high x=high 1.can=true 1.raise=b can=true raise=b")
	// what the block raises stands ahead of it, too
	b.proofs(t, "var x int; | while true { set x = 1; if :va > 0 { raise; } }", "- 1.b0.pc=low", "- 1.b0.pc=low x=low", "- 1.b1.pc=low", "- x=low", "- 1.raise=low", "- 1.b1.raise=low", "- 1.b1.b0.raise=low", "- 1.b1.can=false",
		"- 1.b1.raise=high 1.raise=high raise=high", "- 1.b1.raise=high 1.raise=high raise=high 1.b0.pc=high x=high", "+ 1.b1.raise=high 1.raise=high raise=high 1.b0.pc=high 1.b1.pc=high 1.b1.b0.pc=high 1.b1.b0.raise=high x=high", "+ 1.raise=high raise=high")
	b.proofs(t, "while true { skip; print ca -:va; }", "- 1.b0.pc=low", "- 1.b1.pc=low", "+ 1.b0.pc=high")
	b.proofs(t, "while -1 > 0 { skip; }", "- 1.can=false can=false", "+ 1.raise=a raise=a", "- 1.raise=a", "- 1.b0.can=true 1.b0.raise=a", "- 1.b0.can=true 1.b0.raise=a 1.b0.pc=a", "+ 1.b0.can=true 1.b0.raise=a 1.b0.pc=a 1.raise=a raise=a")
	// what its expression raises is raised where the block stands
	b.proofs(t, "while "+early+" { skip; }", "- 1.raise=low", "- 1.raise=low raise=low", "- 1.raise=b raise=high", "+ 1.raise=high raise=high", "- 1.b0.pc=low")
	b.proofs(t, "while "+quiet+" { skip; }", "- 1.raise=low raise=low", "- 1.b0.pc=low")
	b.proofs(t, "while "+mixed+" > 0 { skip; }", "- 1.raise=a", "- 1.b0.pc=a", "- 1.b0.pc=b")
	b.proofs(t, "while true { }", "+ 1.pc=high", "+ 1.raise=b")
	b.refused(t, "while :va > 0 { print out 1; }", "while true { print out 1; if :va > 0 { raise; } }", "while true { while true { print out 1; } print ca -:va; }")
}

func TestFor(t *testing.T) {
	b := benchOf("table h rows low (i int null low) hide b when i = 1; table m rows a (i int low, j int b);")
	b.proofs(t, "var x int; var y int; | for x in "+rowsA+" { set y = 1; }", "- 1.b0.pc=low", "- 1.b0.pc=b", "- x=low", "- y=low", "+ x=high", "+ y=high", "- 1.b0.pc=high", "+ 1.b0.pc=high y=high", "+ 1.pc=a", "- 1.pc=b", "- 1.pc=b 1.b0.pc=high y=high", "+ 1.pc=b 1.b0.pc=high y=high x=high",
		"- 1.b0.can=true", "+ 1.b0.can=true 1.can=true can=true", "- 1.b0.can=true 1.b0.raise=b 1.can=true 1.raise=b can=true raise=b 1.b0.pc=high y=high", "+ 1.b0.can=true 1.b0.raise=b 1.can=true 1.raise=b can=true raise=b 1.b0.pc=high y=high x=high")
	b.proofs(t, "var x int; var y int; | for x, y in select ia as x, ib as y from t { skip; }", "- x=low", "- x=b", "- y=low", "- y=a", "+ x=high y=high", "+ 1.b0.pc=high", "- 1.pc=a 1.b0.pc=a", "+ 1.pc=a 1.b0.pc=a y=high")
	b.proofs(t, "var x int; | for x in select i as x from h { skip; }", "- x=low", "- x=a", "- 1.b0.pc=low")
	b.proofs(t, "var x int; | for x in select i as x from h visible { skip; }", "+ x=b", "+ 1.b0.pc=b")
	b.proofs(t, "var x int; var y int; | for x, y in select i as x, j as y from m { skip; }", "- x=low", "- y=b", "- 1.b0.pc=low")
	b.proofs(t, "var x int; | for x in select -ia as x from t { skip; }", "- 1.raise=low", "- 1.can=false can=false", "- 1.b0.pc=low", "- x=low", "+ 1.raise=high raise=high")
	// what the query raises is raised ahead of the block
	b.proofs(t, "var x int; | for x in select i as x from t where -i > 0 or pa { skip; }", "- 1.can=false can=false", "+ 1.raise=a raise=a", "- 1.raise=a", "- x=low", "- 1.b0.pc=low")
	b.proofs(t, "var x int; var y int; | for x in select i as x from t { set y = 1; if :va > 0 { raise; } }", "- 1.b0.pc=low", "- 1.b0.pc=low y=low", "- x=low", "- y=low", "- 1.raise=low", "- 1.b1.raise=low", "- 1.b1.can=false", "- 1.b1.raise=high 1.raise=high raise=high",
		"- 1.b1.raise=high 1.raise=high raise=high 1.b0.pc=high 1.b1.pc=high 1.b1.b0.pc=high 1.b1.b0.raise=high y=high", "+ 1.b1.raise=high 1.raise=high raise=high 1.b0.pc=high 1.b1.pc=high 1.b1.b0.pc=high 1.b1.b0.raise=high x=high y=high")
	b.refused(t, "var x int; | for x in select ia as x from t { print out :x; }", "var x int; | for x in "+rowsA+" { print out 1; }", "var x int; | for x in select i as x from t { print out 1; if :x > 0 { print ca -:va; } }")
}

func TestTry(t *testing.T) {
	b := benchOf("")
	b.proofs(t, "var x int; var y int; | try { set x = -:va; } catch { set y = 1; } print out 1;", "- 1.b0.raise=low", "- 1.b0.can=false", "- 1.e0.pc=low", "- 1.e0.pc=b", "- y=low", "- 1.b0.raise=high", "- 1.b0.raise=high 1.e0.pc=high", "+ 1.b0.raise=high 1.e0.pc=high y=high", "+ 1.e0.pc=high y=high",
		"+ 1.raise=high", "- 1.can=true", "+ 1.can=true can=true", "- 1.can=true 1.raise=a can=true raise=a", "- 1.pc=a", "+ 1.pc=a 1.b0.pc=a", "- 1.pc=b x=high y=high 1.b0.pc=b 1.e0.pc=high", "+ 1.pc=b x=high y=high 1.b0.pc=b 1.b0.raise=high 1.e0.pc=high")
	b.proofs(t, "var y int; | try { skip; } catch { set y = 1; }", "+ 1.b0.can=true", "+ 1.b0.raise=a", "- 1.b0.can=true 1.b0.raise=a", "- 1.b0.can=true 1.b0.raise=a 1.e0.pc=a", "+ 1.b0.can=true 1.b0.raise=a 1.e0.pc=a y=a", "+ 1.e0.pc=a y=a", "- 1.e0.pc=a", "- 1.pc=a", "- 1.pc=a 1.b0.pc=a", "+ 1.pc=a 1.b0.pc=a 1.e0.pc=a y=a", "- 1.pc=a 1.e0.pc=a y=a",
		"- 1.e0.can=true", "+ 1.e0.can=true 1.can=true can=true", "- 1.e0.can=true 1.e0.raise=b 1.can=true can=true")
	// it raises what its catch does, and nothing else
	b.proofs(t, "try { skip; } catch { raise; }", "- 1.can=false", "- 1.can=false can=false", "- can=false", "- 1.e0.can=false", "- 1.e0.raise=a", "+ 1.e0.raise=a 1.raise=a raise=a", "+ 1.b0.raise=a", "- 1.b0.can=true 1.b0.raise=a", "+ 1.b0.can=true 1.b0.raise=a 1.e0.pc=a 1.e0.raise=a 1.raise=a raise=a")
	b.proofs(t, "try { if :va > 0 { raise; } } catch { raise; }", "- 1.raise=low", "- 1.e0.raise=low", "- 1.e0.pc=low", "- 1.b0.raise=low", "- 1.b0.raise=high", "+ 1.b0.raise=high 1.e0.pc=high 1.e0.raise=high 1.raise=high raise=high")
	b.proofs(t, "try { raise; } catch { skip; } print out 1;", "- 1.b0.can=false", "- 1.b0.raise=a", "+ 1.b0.raise=a 1.e0.pc=a", "- 1.can=true", "+ 1.can=true can=true")
	b.proofs(t, "try { try { print ca -:va; } catch { skip; } print out 1; } catch { print out 2; }", "- 1.b0.can=true 1.b0.raise=a", "+ 1.b0.can=true", "- 1.b0.b0.raise=low", "- 1.b0.e0.pc=low", "+ 1.b0.b0.raise=high 1.b0.e0.pc=high")
	b.proofs(t, "try { } catch { }", "+ 1.pc=high", "+ 1.can=true can=true")
	b.refused(t, "try { print ca -:va; } catch { print out 1; }", "try { print ca -:va; } catch { raise; } print out 1;", "try { if :va > 0 { raise; } print out 1; } catch { skip; }")
}

func TestRaiseAndSkip(t *testing.T) {
	b := benchOf("")
	b.proofs(t, "raise;", "- 1.can=false", "- 1.can=false can=false", "- can=false", "- 1.pc=a", "+ 1.pc=a 1.raise=a raise=a", "- 1.pc=a 1.raise=b raise=b", "- 1.pc=a 1.raise=a", "- 1.raise=a", "+ 1.raise=a raise=a", "+ raise=high")
	b.proofs(t, "skip;", "+ 1.pc=a", "+ 1.pc=high 1.raise=low", "+ 1.raise=a", "+ can=true", "- 1.can=true", "+ 1.can=true can=true", "- 1.can=true 1.raise=a can=true raise=b", "+ 1.pc=high 1.can=true can=true")
	// a rule's Raise below its Pc
	b.proofs(t, "if :va > 0 { raise; }", "- 1.b0.raise=low", "- 1.b0.raise=b 1.raise=high raise=high", "- 1.b0.pc=high", "+ 1.b0.pc=high 1.b0.raise=high 1.raise=high raise=high")
	b.proofs(t, "if :va > 0 { skip; }", "+ 1.b0.raise=low", "+ 1.b0.raise=b", "+ 1.b0.can=true 1.b0.raise=low 1.can=true can=true")
	b.proofs(t, "")
}

// What stands behind a rule that can raise something stands at its Raise, too, and nothing else of it counts there.
func TestBehind(t *testing.T) {
	b := benchOf("")
	b.proofs(t, "skip; print out 1;", "+ 1.pc=high", "+ 1.raise=high", "+ 1.can=true can=true", "+ 1.pc=high 1.can=true can=true", "- 1.can=true 1.raise=a can=true raise=a", "- 1.can=true 1.raise=a can=true raise=a 2.pc=a")
	b.proofs(t, "skip; print ca 1; print ch 1;", "- 1.can=true 1.raise=a can=true raise=a", "- 1.can=true 1.raise=a can=true raise=a 2.pc=a", "- 1.can=true 1.raise=a can=true raise=a 3.pc=a", "+ 1.can=true 1.raise=a can=true raise=a 2.pc=a 3.pc=a", "- 1.can=true 1.raise=b can=true raise=b 2.pc=b 3.pc=b",
		"- 2.can=true 2.raise=b can=true raise=b", "+ 2.can=true 2.raise=b can=true raise=b 3.pc=b", "+ 3.can=true 3.raise=b can=true raise=b", "- 1.can=true 1.raise=a can=true raise=high 2.pc=a 3.pc=high 2.can=true 2.raise=b 3.pc=b", "+ 1.can=true 1.raise=a can=true raise=high 2.pc=a 2.can=true 2.raise=b 3.pc=high")
	b.proofs(t, "raise; print out 1;", "- 1.raise=a raise=a", "- 1.can=false", "- 1.can=false can=false", "- 1.pc=a 1.raise=a raise=a")
	b.proofs(t, "print ca -:va; print ca 1; skip;", "- 2.pc=low", "- 3.pc=low", "- 2.pc=b", "- 1.raise=high raise=high", "- 1.raise=high raise=high 2.pc=high 3.pc=high", "+ 3.pc=high")
	b.proofs(t, "print ca -:va; print ch -:vb; skip;", "- 2.pc=low", "- 2.raise=b", "- 2.raise=a", "- 3.pc=a", "- 3.pc=b", "- raise=a", "- 2.can=false")
	b.proofs(t, "var x int; | if true { if :va > 0 { raise; } set x = 1; } set x = 2;", "- 1.b1.pc=low", "- 2.pc=low", "- x=low", "- 1.b0.raise=low", "- 1.b0.raise=low 1.b1.pc=low 1.raise=low raise=low 2.pc=low x=low")
	b.refused(t, "print ca -:va; print out 1;", "if true { print ca -:va; } print out 1;", "print ca -:va; skip; print cb 1;")
}

// begin, commit and rollback: where they stand is below the rows and the columns of all tables.
func TestSaved(t *testing.T) {
	for _, w := range []struct{ tables, above, not string }{
		{"", "low a b high", ""},
		{"table u rows low (x int low);", "low", "a b high"},
		{"table u rows a (x int low);", "low a", "b high"},
		{"table u rows a (x int b, y int low, z int high);", "low a", "b high"},
		{"table u rows high (x int low, y int a);", "low a b high", ""},
		{"table u rows a (x int low); table v rows b (x int low);", "low", "a b high"},
		{"table u rows high (x int low); table v rows low (x int high, y int high);", "low", "a b high"},
		{"table u rows low (x int low) hide high when x = 1;", "low", "a b high"},
	} {
		for _, word := range []string{"begin", "commit", "rollback"} {
			b, lines := benchFrom(order+w.tables), one("+ 0.raise=high", "- 0.can=true", "+ 0.can=true can=true")
			for _, level := range strings.Fields(w.above) {
				lines = append(lines, "+ 0.pc="+level, "+ 0.pc=high 0.pc="+level)
			}
			for _, level := range strings.Fields(w.not) {
				lines = append(lines, "- 0.pc="+level)
			}
			b.whole(t, word+";", lines...)
		}
	}
	b := benchOf("")
	b.proofs(t, "begin; insert into t values (1, 2, 3, 4, true, true, true, true); rollback;", "- 1.pc=a", "- 3.pc=a", "- 2.can=true 2.raise=a can=true raise=a", "+ 2.can=true can=true")
	b.refused(t, "if :va > 0 { begin; }", "if :vb > 0 { commit; }", "print ca -:va; rollback;")
}

// Statements of which something may not flow when they stand at a, and all may when they stand at low, in blocks of each kind, behind statements that can raise something and behind such as can't: there is a proof just if they stand at low.
func TestEverywhere(t *testing.T) {
	b := benchOf("table n rows low (x int null low, y int null a);")
	stmts := []string{"print out 1;", "input x;", "begin;", "commit;", "rollback;", "insert into n values (1, 2);", "insert into n select 1 as x, 2 as y;", "update n set x = 1, y = 2;", "delete from n;"}
	low := []string{
		"%s", "skip; %s skip;", "if true { %s }", "if true { skip; } else { %s }", "while true { %s }", "for l in select i as x from t { %s }", "try { %s } catch { skip; }", "try { raise; } catch { %s }", "try { skip; } catch { %s }",
		"print ca :va; %s", "set l = -1; %s", "raise; %s", "try { print ca -:va; } catch { skip; } %s", "if :va > 0 { skip; } %s", "while :va > 0 { skip; } %s", "for y in " + rowsA + " { skip; } %s", "call idle(:va); %s",
		"%s print ca -:va;", "if true { %s } else { print ca -:va; }", "try { %s print ca -:va; } catch { skip; }", "while true { try { %s print ca -:va; } catch { skip; } }",
	}
	high := []string{
		"if :va > 0 { %s }", "if :va > 0 { skip; } else { %s }", "while :va > 0 { %s }", "for y in " + rowsA + " { %s }", "for y in select -ia as x from t { %s }", "if " + quiet + " { %s }",
		"print ca -:va; %s", "if :va > 0 { raise; } %s", "if true { skip; } else { print ca -:va; } skip; %s", "while true { print ca -:va; } %s", "try { skip; } catch { print ca -:va; } %s", "call loud(:va); %s", "call idle(-:va); %s",
		"while true { %s print ca -:va; }", "for y in select i as x from t { %s print ca -:va; }", "try { print ca -:va; %s } catch { skip; }", "try { print ca -:va; } catch { %s }", "try { call loud(:va); } catch { skip; %s }",
		"if true { while true { try { skip; } catch { print ca -:va; } %s } }", "try { try { print ca -:va; } catch { raise; } %s } catch { skip; }", "while true { for y in select i as x from t { %s } print ca -:va; }",
	}
	const procs = "proc loud(n int) { if :n > 0 { raise; } } proc idle(n int) { skip; } "
	for _, c := range b {
		for _, s := range stmts {
			for i, around := range append(low, high...) {
				text := withPreamble("var x int; var y int; " + procs + " | " + fmt.Sprintf(around, s))
				in := withPreamble("proc whole(l int, va int) { var x int; var y int; " + fmt.Sprintf(around, s) + " } " + procs + " | call whole(:l, :va);")
				for _, text := range one(text, in) {
					holdTo(t, c, text, i < len(low))
				}
			}
		}
	}
}

func holdTo(t *testing.T, c *schema.Catalog, text string, is bool) {
	t.Helper()
	m := read(t, c, text)
	x, ok := derive.Make(c, m.p)
	check(t, text, ok, is)
	check(t, text, derive.Verify(c, m.p, x), is)
	check(t, text, len(flow.Check(c, m.p).Diags) == 0, is)
	check(t, text, derive.Verify(c, m.p, modelOf(c, m).least()), is)
}
