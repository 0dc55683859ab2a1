package interp_test

import (
	"fmt"
	"math"
	"slices"
	"strings"
	"testing"

	"cordon/api"
)

// costs holds scripts to how many steps they take: with each lesser fuel there is none left, with so much, and with more, they end. Of each two texts the first is the script, the second how it ends.
func costs(t *testing.T, steps int, texts ...string) {
	t.Helper()
	for two := range slices.Chunk(texts, 2) {
		p := programOf(t, ourCatalog(), "var x int; var y int; var b bool; proc none() { } proc one() { skip; } proc two(n int, m int) { set n = :m; print out :n; } "+two[0])
		for fuel := range steps + 4 {
			want := two[1]
			if fuel < steps {
				want = "ErrFuel"
			}
			check(t, fmt.Sprint(two[0], " with ", fuel), errNames[watched(t, ask{ours(), p, one(4), fuel}).err], want)
		}
		check(t, two[0], errNames[watched(t, ask{ours(), p, one(4), api.MaxFuel}).err], two[1])
	}
}

// A statement's own step, to the last one.
func TestCosts(t *testing.T) {
	costs(t, 0, "", "OK")
	costs(t, 1,
		"skip;", "OK", "set x = 1 + 2 * 3;", "OK", "print out 1;", "OK", "input x;", "OK", "if true { }", "OK", "if false { skip; }", "OK", "if null { skip; } else { }", "OK",
		"try { } catch { skip; }", "OK", "call none();", "OK", "begin;", "OK", "commit;", "OK", "rollback;", "OK", "raise;", "ErrRaise",
		"insert into t values (4, 4);", "OK", "insert into e select a as a, 'x' as y from t;", "OK", "update t set b = 1;", "OK", "delete from t;", "OK",
		"for x in select x as x from e { skip; }", "OK",
		"set x = 1 / 0;", "ErrZero", "print out 1 / 0;", "ErrZero", "if 1 / 0 = 1 { }", "ErrZero", "for x in select 1 / 0 as x { }", "ErrZero", "insert into t values (1, 1);", "ErrKey", "call two(1, 1 / 0);", "ErrZero",
		"raise; skip; skip;", "ErrRaise", "set x = (select count(*) as n from full as a join full as b on true join full as c on true);", "OK",
	)
	costs(t, 2,
		"skip; skip;", "OK", "if true { skip; } else { skip; skip; }", "OK", "call one();", "OK", "try { skip; } catch { skip; }", "OK", "try { raise; } catch { }", "OK", "begin; rollback;", "OK", "skip; raise;", "ErrRaise",
		"input x; input y;", "OK", "call none(); call none();", "OK", "if true { raise; }", "ErrRaise",
	)
	costs(t, 3,
		"if false { } else { skip; skip; }", "OK", "if true { if true { skip; } }", "OK", "try { raise; } catch { skip; }", "OK", "try { raise; skip; } catch { raise; }", "ErrRaise", "call two(1, 2);", "OK",
		"try { call none(); skip; } catch { }", "OK", "try { try { skip; } catch { } } catch { }", "OK",
	)
	costs(t, 4, "try { try { raise; } catch { raise; } } catch { }", "OK", "try { call one(); raise; skip; } catch { }", "OK", "begin; delete from t; rollback; commit;", "OK")
}

// The step of each turn, also of the turn that ends a while.
func TestCostsOfTurns(t *testing.T) {
	costs(t, 2, "while false { skip; }", "OK", "while null { skip; }", "OK", "while :b { }", "OK", "while 1 / 0 = 1 { }", "ErrZero", "for x in select x as x from o { }", "OK")
	costs(t, 3, "while false { } skip;", "OK", "while true { raise; }", "ErrRaise", "for x in select x as x from o { skip; }", "OK", "for x in select x as x from o { raise; skip; }", "ErrRaise")
	costs(t, 4, "while :x is null { set x = 1; }", "OK", "while false { } while false { }", "OK", "for x in select a as a from t { }", "OK", "for x in select x as x from o { for y in select x as x from o { } }", "OK")
	costs(t, 5, "while :x is null { set x = 1; skip; }", "OK", "while :x is null { set x = 1; } skip;", "OK", "for x in select a as a from t where a < 3 { skip; }", "OK", "if true { while :x is null { input x; } }", "OK")
	costs(t, 7, "for x in select a as a from t { skip; }", "OK", "set x = 0; while :x < 2 { set x = :x + 1; }", "OK")
	costs(t, 1+3*(1+1+2), "for x in select a as a from t { for y in select x as x from o { skip; } }", "OK")
	costs(t, 1+3*(1+2), "for x in select a as a from t { while false { } }", "OK")
	costs(t, 1+1+(1+1)*3+1, "set x = 0; while :x < 3 { set x = :x + 1; }", "OK")
	costs(t, 7, "try { for x in select a as a from t { if :x = 2 { raise; } } } catch { }", "OK")
}

// What is told ahead of the want of fuel is a beginning, and what was done to tables is there.
func TestWantOfFuel(t *testing.T) {
	text := "print out 1; insert into o values (9); print out 2; while true { insert into e values (1, 'a'); print log 3; } print out 4;"
	for fuel, want := range []string{
		"ErrFuel", "1 ErrFuel", "1 ErrFuel o (8) (9)", "1 2 ErrFuel o (8) (9)", "1 2 ErrFuel o (8) (9)", "1 2 ErrFuel o (8) (9)",
		"1 2 ErrFuel e (1 'a') o (8) (9)", "1 2 1:3 ErrFuel e (1 'a') o (8) (9)", "1 2 1:3 ErrFuel e (1 'a') o (8) (9)", "1 2 1:3 ErrFuel e (1 'a') (1 'a') o (8) (9)",
	} {
		check(t, fuel, toldWith(t, text, fuel), want)
	}
	check(t, "a saved copy is not taken back", toldWith(t, "begin; delete from o; print out 1;", 2), "ErrFuel o none")
}

// Fuel of 0, below 0, of MaxFuel and above it.
func TestBoundsOfFuel(t *testing.T) {
	for _, fuel := range []int{0, -1, -2, -api.MaxFuel, math.MinInt, math.MinInt + 1} {
		check(t, fuel, toldWith(t, "print out 1;", fuel), "ErrFuel")
		check(t, fuel, toldWith(t, "", fuel), "OK")
		check(t, fuel, toldWith(t, "proc p() { skip; }", fuel), "OK")
	}
	ones := func(n int) string { return strings.Repeat("1 ", n) + "ErrFuel" }
	text := "while true { print out 1; }" // one step, and two for each turn
	for fuel, n := range map[int]int{
		1: 0, 2: 0, 3: 1, 4: 1, 5: 2, api.MaxFuel - 2: 2498, api.MaxFuel - 1: 2499, api.MaxFuel: 2499, api.MaxFuel + 1: 2499, api.MaxFuel + 2: 2499, 2 * api.MaxFuel: 2499, math.MaxInt: 2499,
	} {
		check(t, fuel, toldWith(t, text, fuel), ones(n))
	}
	// 1 for the set, 1 for the while, 2 for each turn but the last one, 1 for that: 4999 in all, and 5000 with one statement more
	exact := "var x int; set x = 0; while :x < %d { set x = :x + 1; } "
	for _, fuel := range []int{api.MaxFuel, api.MaxFuel + 1, math.MaxInt} {
		check(t, fuel, toldWith(t, fmt.Sprintf(exact, 2498), fuel), "OK")
		check(t, fuel, toldWith(t, fmt.Sprintf(exact, 2498)+"skip;", fuel), "OK")
		check(t, fuel, toldWith(t, fmt.Sprintf(exact, 2498)+"skip; skip;", fuel), "ErrFuel")
		check(t, fuel, toldWith(t, fmt.Sprintf(exact, 2499), fuel), "ErrFuel")
	}
	check(t, "one less", toldWith(t, fmt.Sprintf(exact, 2498)+"skip;", api.MaxFuel-1), "ErrFuel")
}
