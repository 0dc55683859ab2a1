package flow_test

import (
	"testing"

	"cordon/api"
	"cordon/flow"
	"cordon/schema"
)

// P18.1, statement by statement. Of each expression that is used: :va is at a, and can raise nothing; -:va is at a, and raises at a; -1 is at low, and raises there. Those below tell Value and Raise apart.
const (
	quiet = "exists (select -ia as x from t)"        // Value low, Raise a
	mixed = "case when :va > 0 then -1 else :vb end" // Value high, Raise a
	rowsA = "select i as x from t where pa"          // Rows a, Cols low
)

// The chapter's example, and the same to channels at the level, above and beside it.
func TestExample(t *testing.T) {
	c := catalogOf("levels low, high; order low < high; table t rows low (a int low, b int high); channel out low; channel log high;")
	for text, want := range map[string]string{
		"var x int; for x in select b as b from t { print out :x; }": "[x high]; print: print out :x",
		"var x int; for x in select b as b from t { print log :x; }": "[x high]",
		"var x int; for x in select a as b from t { print out :x; }": "",
	} {
		p := programOf(t, c, text)
		check(t, text, verdictTold(c, text, p, flow.Check(c, p)), want)
	}
}

func TestSet(t *testing.T) {
	benchOf("").checks(t,
		"var x int; | set x = 1;", "",
		"var x int; | set x = null;", "",
		"var x int; | set x = :l;", "",
		"var x int; | set x = :va;", "[x a]",
		"var x int; | set x = :vb;", "[x b]",
		"var x int; | set x = case when :va > 0 then :vb else 1 end;", "[x high]",
		"var x int; | set x = -1;", "[raises low]",
		"var x int; | set x = -:va;", "[x a, raises a]",
		"var x bool; | set x = "+quiet+";", "[x a, raises a]",
		"var x int; | set x = "+mixed+";", "[x high, raises a]",
		"var x int; | set x = 1; set x = :va; set x = 2;", "[x a]",
		"var x int; | set x = :va; set x = :vb;", "[x high]",
		"var x int; | if :va > 0 { set x = 1; }", "[x a]",
		"var x int; | if :va > 0 { set x = :vb; }", "[x high]",
		"var x int; | if :va > 0 { set x = -1; }", "[x a, raises a]",
		"var x int; | if :va > 0 { set x = -:vb; }", "[x high, raises high]",
		"var x bool; | if :vb > 0 { set x = "+quiet+"; }", "[x high, raises high]",
		"var x int; var y int; | set x = :va; set y = :x; set y = :vb;", "[x a, y high]",
		"set va = :vb;", "[va high]",
	)
}

func TestPrint(t *testing.T) {
	benchOf("").checks(t,
		"print out 1; print ca 1; print cb 1; print ch 1;", "",
		"print out :l; print ca :l; print cb :l; print ch :l;", "",
		"print out :va; print ca :va; print cb :va; print ch :va;", "print: print out :va; print: print cb :va",
		"print out :vb; print ca :vb; print cb :vb; print ch :vb;", "print: print out :vb; print: print ca :vb",
		"print out :vh; print ca :vh; print cb :vh; print ch :vh;", "print: print out :vh; print: print ca :vh; print: print cb :vh",
		"print out -1;", "[raises low]",
		"print ca -:va;", "[raises a]",
		"print cb -:va;", "[raises a]; print: print cb -:va",
		"print out "+quiet+";", "[raises a]; print: print out "+quiet,
		"print ca "+quiet+";", "[raises a]",
		"print cb "+quiet+";", "[raises a]; print: print cb "+quiet,
		"print ca "+mixed+";", "[raises a]; print: print ca "+mixed,
		"print ch "+mixed+";", "[raises a]",
		"if :va > 0 { print out 1; print ca 1; print cb 1; print ch 1; }", "print: print out 1; print: print cb 1",
		"if :va > 0 { print ca :va; print cb :vb; print ca :vb; print ch :vb; }", "print: print cb :vb; print: print ca :vb",
		"if :va > 0 { print ch -:vb; }", "[raises high]",
	)
}

func TestInput(t *testing.T) {
	benchOf("").checks(t,
		"var x int; | input x;", "",
		"var x int; | input x; print out :x;", "",
		"input va;", "",
		"var x int; | if :l > 0 { input x; }", "",
		"var x int; | if :va > 0 { input x; }", "[x a]; input: input x",
		"var x int; | if :vh > 0 { input x; } else { input x; }", "[x high]; input: input x; input: input x",
		"var x int; | set x = -1; input x;", "[raises low]",
		"var x int; | print ca -:va; input x;", "[x a, raises a]; input: input x",
		"var x int; | try { print ca -:va; } catch { skip; } input x;", "",
	)
}

func TestIf(t *testing.T) {
	benchOf("").checks(t,
		"var x int; var y int; | if true { set x = 1; } else { set y = 1; }", "",
		"var x int; var y int; | if :va > 0 { set x = 1; } else { set y = 1; }", "[x a, y a]",
		"var x int; var y int; | if :va > 0 { set x = :vb; } else { set y = 1; } set y = :l;", "[x high, y a]",
		"var x int; var y int; | if -1 > 0 { set x = 1; } else { set y = 1; }", "[raises low]",
		"var x int; var y int; | if -:va > 0 { set x = 1; } else { set y = 1; }", "[x a, y a, raises a]",
		"var x int; var y int; var z int; | if "+quiet+" { set x = 1; } else { set y = 1; } set z = 1;", "[x a, y a, z a, raises a]",
		"var x int; var y int; var z int; | if "+mixed+" > 0 { set x = 1; } else { set y = 1; } set z = 1;", "[x high, y high, z a, raises a]",
		"var x int; | if :va > 0 { raise; } set x = 1;", "[x a, raises a]",
		"var x int; | if :va > 0 { skip; } else { raise; } set x = 1;", "[x a, raises a]",
		"var x int; | if true { if :va > 0 { raise; } } else { if :vb > 0 { raise; } } set x = 1;", "[x high, raises high]",
		"var x int; | if -:va > 0 { skip; } else { if :vb > 0 { raise; } }", "[raises high]",
		"var x int; var y int; | if true { if :va > 0 { raise; } set x = 1; } else { set y = 1; }", "[x a, raises a]",
		"var x int; var y int; | if :va > 0 { if :vb > 0 { set x = 1; } else { set y = 1; } } set x = 1;", "[x high, y high]",
		"var x int; | if :va > 0 { skip; } set x = 1;", "",
		"if :va > 0 { }", "",
	)
}

func TestWhile(t *testing.T) {
	benchOf("").checks(t,
		"var x int; | while true { set x = 1; }", "",
		"var x int; | while :va > 0 { set x = 1; }", "[x a]; loops a",
		"var x int; | while :va > 0 { set x = 1; } set x = 2;", "[x a]; loops a",
		"var x int; | while :va > 0 { skip; } set x = 2;", "loops a",
		"var x int; | while -1 > 0 { set x = 1; } set x = 2;", "[raises low]",
		"var x int; var y int; | while -:va > 0 { set x = 1; } set y = 2;", "[x a, y a, raises a]; loops a",
		"var x int; var y int; | while "+quiet+" { set x = 1; } set y = 2;", "[x a, y a, raises a]; loops a",
		"var x int; var y int; | while "+mixed+" > 0 { set x = 1; } set y = 2;", "[x high, y high, raises high]; loops high",
		"var x int; | while true { set x = 1; if :va > 0 { raise; } }", "[x a, raises a]; loops a",
		"var x int; | while :vb > 0 { set x = 1; if :va > 0 { raise; } }", "[x high, raises high]; loops high",
		"while true { print out 1; if :va > 0 { raise; } }", "[raises a]; loops a; print: print out 1",
		"while true { print out 1; try { if :va > 0 { raise; } } catch { skip; } }", "",
		"while -:l > 0 { if :va > 0 { raise; } }", "[raises a]; loops a",
		"while :va > 0 { while :vb > 0 { skip; } }", "loops high",
		"while :va > 0 { skip; } while :vb > 0 { skip; }", "loops high",
		"if :va > 0 { while true { skip; } }", "loops a",
		"var x int; | set x = 1; while :x < 3 { set x = :x + :va; }", "[x a, raises a]; loops a",
		"var x int; var y int; | while :x < 3 { set x = :y; set y = :va; }", "[x a, y a]; loops a",
		"while :va > 0 { }", "loops a",
	)
}

func TestFor(t *testing.T) {
	benchOf("table h rows low (i int null low) hide b when i = 1; table m rows a (i int low, j int b);").checks(t,
		"var x int; var y int; | for x in select i as x from t { set y = 1; }", "",
		"var x int; var y int; | for x in select ia as x from t { set y = 1; }", "[x a]",
		"var x int; var y int; | for x, y in select ia as x, ib as y from t { skip; }", "[x a, y b]",
		"var x int; var y int; | for y, x in select ia as x, ib as y from t { skip; }", "[x b, y a]",
		"var x int; var y int; | for x in "+rowsA+" { set y = 1; } set y = 2;", "[x a, y a]",
		"var x int; var y int; | for x in "+rowsA+" { skip; } set y = 2;", "[x a]",
		"var x int; var y int; | for x in select i as x from h { set y = 1; }", "[x b, y b]",
		"var x int; var y int; | for x in select i as x from h visible { set y = 1; }", "",
		"var x int; var y int; var z int; | for x, y in select i as x, j as y from m { set z = 1; }", "[x a, y high, z a]",
		"var x int; var y int; | for x in select -i as x from t { set y = 1; } set y = 2;", "[raises low]",
		"var x int; var y int; var z int; | for x in select -ia as x from t { set y = 1; } set z = 1;", "[x a, y a, z a, raises a]",
		"var x int; var y int; var z int; | for x in select i as x from t where -ia > 0 or pb { set y = 1; } set z = 1;", "[x high, y high, z a, raises a]",
		"var x int; var y int; | for x in select i as x from t { set y = 1; if :va > 0 { raise; } } set y = 2;", "[x a, y a, raises a]",
		"var x int; var y int; | for x in select ib as x from t { set y = 1; if :va > 0 { raise; } }", "[x high, y a, raises a]",
		"var x int; var y int; | if :va > 0 { for x in select ib as x from t { set y = 1; } }", "[x high, y a]",
		"var x int; | for x in select i as x from t { print out 1; if :x > 0 { print ca -:va; } }", "[x a, raises a]; print: print out 1",
		"var x int; var y int; | for x in select :y as x { set y = :va; }", "[x a, y a]",
		"var x int; var y int; | for x in select i as x from t where i > :y { set y = :va; }", "[x a, y a]",
		"var x int; | for x in select i as x from t { while :va > 0 { skip; } }", "loops a",
		"for va in select i as x from t { skip; }", "",
	)
}

func TestTry(t *testing.T) {
	benchOf("").checks(t,
		"var x int; var y int; | try { set x = 1; } catch { set y = 1; }", "",
		"var x int; var y int; var z int; | try { raise; set x = 1; } catch { set y = 1; } set z = 1;", "",
		"var x int; var y int; var z int; | try { if :va > 0 { raise; } set x = 1; } catch { set y = 1; } set z = 1;", "[x a, y a]",
		"var x int; var y int; var z int; | try { set x = -:va; } catch { set y = 1; } set z = 1;", "[x a, y a]",
		"var x int; var y int; | try { set x = :va; } catch { set y = 1; }", "[x a]",
		"var x int; var y int; | try { if :va > 0 { raise; } } catch { raise; } set y = 1;", "[y a, raises a]",
		"var x int; var y int; | try { if :va > 0 { raise; } } catch { set x = 1; if :vb > 0 { raise; } set x = 1; } set y = 1;", "[x high, y high, raises high]",
		"var y int; | try { skip; } catch { raise; } set y = 1;", "[raises low]",
		"var y int; | try { skip; } catch { if :va > 0 { raise; } } set y = 1;", "[y a, raises a]",
		"var x int; var y int; | if :va > 0 { try { set x = -:vb; } catch { set y = 1; } } set y = 1;", "[x high, y high]",
		"var x int; var y int; | if :va > 0 { try { set x = 1; } catch { set y = 1; } }", "[x a, y a]",
		"var x int; | try { try { if :va > 0 { raise; } } catch { if :vb > 0 { raise; } } } catch { set x = 1; } print out 1;", "[x high]",
		"var x int; | try { try { if :va > 0 { raise; } } catch { skip; } print out 1; } catch { set x = 1; print out 1; }", "",
		"try { print ca -:va; } catch { print out 1; print ca 1; } print out 2;", "print: print out 1",
		"try { } catch { }", "",
	)
}

func TestRaiseAndSkip(t *testing.T) {
	benchOf("").checks(t,
		"var x int; | raise; set x = 1; print out 1;", "[raises low]",
		"var x int; | skip; set x = 1; print out 1;", "",
		"var x int; | if :va > 0 { raise; set x = 1; } print out 1; print ca 1;", "[x a, raises a]; print: print out 1",
		"var x int; | if :va > 0 { skip; set x = 1; } print out 1;", "[x a]",
		"var x int; | raise; if :va > 0 { raise; } set x = 1; if :vb > 0 { raise; }", "[x a, raises high]",
		"", "",
	)
}

// What stands behind a statement of each kind, in its block and in the one around it: at the level at which that raises something, and just where it can.
func TestBehind(t *testing.T) {
	b := benchOf("table n rows a (x int null a, y int null a); table k rows a (x int a) key (x);")
	for _, stmt := range []string{
		"set l = :va;", "print ca :va;", "if :va > 0 { skip; }", "while :va > 0 { skip; }", "for l in select ia as x from t { skip; }", "try { print ca -:va; } catch { skip; }", "skip;",
		"insert into n values (:va, 1);", "insert into n select ia as x, ia as y from t;", "update n set x = :va;", "delete from n where x > :va;", "call quiet(:va);", "input l;",
	} {
		for _, c := range b {
			text := withPreamble("var x int; var y int; proc quiet(n int) { skip; } | if :vb > 0 { skip; " + stmt + " set x = 1; } set y = 1;")
			v := flow.Check(c, programOf(t, c, text))
			check(t, text, levelsTold(c, v, 4, 5), "b low")
			check(t, text, v.Can[1], false)
		}
	}
	for _, stmt := range []string{
		"set l = -:va;", "print ca -:va;", "if -:va > 0 { skip; }", "if :va > 0 { raise; }", "if true { skip; } else { set l = -:va; }", "while -:va > 0 { skip; }", "while true { set l = -:va; }", "while true { if :va > 0 { raise; } }",
		"for l in select -ia as x from t { skip; }", "for l in select i as x from t { set l = -:va; }", "try { print ca -:va; } catch { raise; }", "try { skip; } catch { set l = -:va; }", "try { raise; } catch { if :va > 0 { raise; } }",
		"insert into n values (-:va, 1);", "insert into k values (1);", "insert into k values (:va);", "insert into n select -ia as x, 1 as y from t;", "insert into k select 1 as x;", "update n set x = -1;", "update n set y = 1 where -1 > 0;", "delete from n where -1 > 0;",
		"call quiet(-:va);", "call loud(:va);",
	} {
		for _, c := range b {
			text := withPreamble("var x int; var y int; proc quiet(n int) { skip; } proc loud(n int) { if :n > 0 { raise; } } | if :vb > 0 { set x = 1; } " + stmt + " set y = 1;")
			v := flow.Check(c, programOf(t, c, text))
			check(t, text, levelsTold(c, v, 4, 5), "b a")
			check(t, text, v.Can[2], true)
			check(t, text, nameOf(c, v.Raise[2]), "a")
		}
	}
}

// levelsTold are the levels of some of the script's own variables.
func levelsTold(c *schema.Catalog, v api.Verdict, places ...int) string {
	out := ""
	for i, place := range places {
		if i > 0 {
			out += " "
		}
		out += nameOf(c, v.Vars[len(v.Vars)-1][place])
	}
	return out
}
