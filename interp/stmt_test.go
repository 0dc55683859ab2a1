package interp_test

import (
	"fmt"
	"math"
	"testing"
)

func TestSet(t *testing.T) {
	runs(t,
		"var x int; set x = 1 + 2; print out :x;", "3 OK",
		"var x int; set x = 1; set x = 2; print out :x;", "2 OK",
		"var x int; set x = 4; set x = :x - 1; print out :x;", "3 OK",
		"var x int; set x = 4; set x = null; print out :x;", "null OK",
		"var b bool; var s text; set b = 1 < 2; set s = 'a' || 'b'; print out :b; print out :s;", "true 'ab' OK",
		"var x int; set x = (select max(b) as m from t); print out :x;", "7 OK",
		"var x int; var y int; set y = 1; set x = :y; set y = 2; print out :x; print out :y;", "1 2 OK",
		// one that has an error changes nothing
		"var x int; set x = 1; try { set x = 2 / 0; } catch { } print out :x;", "1 OK",
	)
}

// Variables are null at first: in the script, and in each call of a procedure anew.
func TestNullAtFirst(t *testing.T) {
	runs(t,
		"var x int; var b bool; var s text; print out :x; print out :b; print out :s; print out :x is null;", "null null null true OK",
		"proc p() { var x int; print out :x; set x = 1; print out :x; } call p(); call p();", "null 1 null 1 OK",
		"proc p(n int) { var x int; print out :x; set x = :n; if :n > 0 { call p(:n - 1); } print out :x; } call p(2);", "null null null 0 1 2 OK",
		"var x int; proc p() { var x int; print out :x; set x = 2; } set x = 1; call p(); print out :x; call p(); print out :x;", "null 1 null 1 OK",
		"proc p() { var x int; try { set x = 1; raise; } catch { print out :x; } } call p(); call p();", "1 1 OK",
		"proc p() { var x int; print out :x; set x = 1; raise; } try { call p(); } catch { call p(); }", "null null ErrRaise",
	)
}

// A procedure changes none of the variables of who calls it, of whatever names: by set, for or input.
func TestFramesAreApart(t *testing.T) {
	runs(t,
		"var x int; proc p(x int) { set x = :x + 1; print out :x; } set x = 1; call p(:x); print out :x; call p(:x + 10); print out :x;", "2 1 12 1 OK",
		"var x int; var y int; proc p(y int, x int) { print out :x; print out :y; set x = 0; set y = 0; } set x = 1; set y = 2; call p(:x, :y); print out :x; print out :y;", "2 1 1 2 OK",
		"var x int; proc p() { var x int; for x in select a as a from t { print out :x; } } set x = 9; call p(); print out :x;", "1 2 3 9 OK",
		"var x int; proc p() { var x int; input x; print out :x; } set x = 9; call p(); print out :x;", "null 9 OK",
		"proc q(n int) { set n = 5; } proc p(n int) { call q(:n); print out :n; } call p(3);", "3 OK",
		"proc p(n int) { if :n > 0 { call p(:n - 1); } print out :n; } call p(3);", "0 1 2 3 OK",
	)
	p := programOf(t, ourCatalog(), "var x int; proc p() { var x int; input x; print out :x; } input x; call p(); call p(); print out :x;")
	check(t, "inputs", watched(t, ask{ours(), p, one(1, 2), 100}).text(ours()), "2 null 1 OK")
}

func TestPrint(t *testing.T) {
	runs(t,
		"print out 1;", "1 OK",
		"print log 1;", "1:1 OK",
		"print err 'it''s';", "2:'it's' OK",
		"print out null; print out 1 = 1; print out '';", "null true '' OK",
		"print out (select count(*) as n from full); print out exists (select a as a from t where a = 4);", "6 false OK",
		"print out 1; print out 1; print out 1;", "1 1 1 OK",
		"print out 1; print out 1 / 0; print out 2;", "1 ErrZero",
		"print out 999999999999999999; print out -999999999999999999 * 9;", "999999999999999999 -8999999999999999991 OK",
	)
}

// input: with inputs left, with the last one, and with none; one that was taken is not left, whatever comes behind it.
func TestInput(t *testing.T) {
	for _, c := range []struct {
		text   string
		inputs []int
		want   string
	}{
		{"var x int; input x; print out :x;", one(7, 8), "7 OK"},
		{"var x int; input x; print out :x;", one(7), "7 OK"},
		{"var x int; input x; print out :x;", nil, "null OK"},
		{"var x int; input x; print out :x;", []int{}, "null OK"},
		{"var x int; set x = 3; input x; print out :x;", nil, "null OK"},
		{"var x int; var y int; input x; input y; input x; print out :x; print out :y;", one(7, 8), "null 8 OK"},
		{"var x int; input x; input x; print out :x;", one(7, 0, 9), "0 OK"},
		{"var x int; var y int; input x; set y = :x; input x; print out :y; print out :x; input y; input y; print out :y;", one(7, math.MinInt, 9), fmt.Sprint("7 ", math.MinInt, " null OK")},
		{"var x int; input x; print out :x;", one(math.MaxInt), fmt.Sprint(math.MaxInt, " OK")},
		{"var x int; try { input x; raise; } catch { print out :x; input x; print out :x; }", one(1, 2), "1 2 OK"},
		{"var x int; proc p() { var y int; input y; print out :y; } input x; call p(); input x; print out :x;", one(1, 2, 3), "2 3 OK"},
		{"var x int; begin; input x; rollback; input x; print out :x;", one(1, 2), "2 OK"},
		{"var x int; var a int; for a in select a as a from t { input x; print out :x; }", one(5, 6), "5 6 null OK"},
		{"skip;", one(1, 2), "OK"},
	} {
		check(t, c.text, told(t, c.text, c.inputs...), c.want)
	}
}

func TestIf(t *testing.T) {
	runs(t,
		"if true { print out 1; } else { print out 2; } print out 3;", "1 3 OK",
		"if false { print out 1; } else { print out 2; } print out 3;", "2 3 OK",
		"if null { print out 1; } else { print out 2; } print out 3;", "2 3 OK",
		"if true { print out 1; } print out 3;", "1 3 OK",
		"if false { print out 1; } print out 3;", "3 OK",
		"if null { print out 1; } print out 3;", "3 OK",
		"var b bool; if :b { print out 1; } else { print out 2; } set b = 1 = 1; if :b { print out 3; } else { print out 4; } if not :b { print out 5; } else { print out 6; }", "2 3 6 OK",
		"if true { if false { print out 1; } else { print out 2; print out 3; } } else { print out 4; }", "2 3 OK",
		"if 1 / 0 = 1 { print out 1; } else { print out 2; } print out 3;", "ErrZero",
		"if exists (select a as a from t) { delete from t; } else { delete from o; }", "OK t none",
		"if null = null { print out 1; } else { print out 2; }", "2 OK",
		// the expression is done once, ahead of the block
		"var b bool; set b = true; if :b { set b = false; print out 1; } else { print out 2; }", "1 OK",
	)
}

// while: never true, true some times, always, null; its expression is done anew for each turn.
func TestWhile(t *testing.T) {
	runs(t,
		"while false { print out 1; } print out 2;", "2 OK",
		"while null { print out 1; } print out 2;", "2 OK",
		"var b bool; while :b { print out 1; } print out 2;", "2 OK",
		"var x int; set x = 0; while :x < 3 { set x = :x + 1; print out :x; } print out 9;", "1 2 3 9 OK",
		"var b bool; set b = true; while :b { print out 1; set b = null; } print out 2;", "1 2 OK",
		"var b bool; set b = true; while :b { set b = false; print out 1; print out 2; }", "1 2 OK",
		"while (select count(*) as n from t) > 1 { delete from t where a = (select min(a) as m from t); print out 1; }", "1 1 OK t (3 7)",
		"var x int; set x = 2; while 6 / :x > 1 { print out :x; set x = :x - 1; }", "2 1 ErrZero",
		"while 1 / 0 = 1 { print out 1; }", "ErrZero",
		"var x int; set x = 0; while true { set x = :x + 1; if :x = 3 { raise; } else { print out :x; } }", "1 2 ErrRaise",
		"var x int; var y int; set x = 0; while :x < 2 { set x = :x + 1; set y = 0; while :y < 2 { set y = :y + 1; print out :x * 10 + :y; } }", "11 12 21 22 OK",
	)
	check(t, "always", toldWith(t, "while true { print out 1; }", 8), "1 1 1 ErrFuel")
	check(t, "always, and nothing in it", toldWith(t, "print out 1; while true { } print out 2;", 5000), "1 ErrFuel")
}

// for: over no row, one, and several, in order; its variables have the last row's values then.
func TestFor(t *testing.T) {
	runs(t,
		"var x int; set x = 3; for x in select x as x from e { print out :x; } print out :x;", "3 OK",
		"var x int; for x in select x as x from o { print out :x; } print out :x;", "8 8 OK",
		"var a int; var b int; for a, b in select a as a, b as b from t { print out :a; print log :b; } print out :a; print out :b;", "1 1:5 2 1:null 3 1:7 3 7 OK",
		"var a int; var b int; for b, a in select a as a, b as b from t where a = 1 { print out :a; print out :b; }", "5 1 OK",
		"var x int; for x in select a as a from t order by a desc { print out :x; }", "3 2 1 OK",
		"var x int; for x in select 1 as x union all select 1 as x union all select null as x { print out :x; }", "1 1 null OK",
		"var k int; for k in select k as k from h { print out :k; } for k in select k as k from h visible { print log :k; }", "1 1 2 1:1 1:2 OK",
		// what its block does to its variables lasts till the next row
		"var x int; for x in select a as a from t { set x = :x * 10; print out :x; } print out :x;", "10 20 30 30 OK",
		// over a query that has an error
		"var x int; for x in select 1 / (a - 2) as x from t { print out :x; }", "ErrZero",
		"var x int; set x = 4; try { for x in select 6 / (3 - a) as x from t { print out :x; } } catch { print out :x; }", "4 OK",
		"var x int; for x in select a.x as x from full as a join full as b on true join full as c on true join full as d on true { print out 1; }", "ErrRows",
		// variables in the query are what they were ahead of the first row
		"var x int; set x = 1; for x in select a as a from t where a > :x { print out :x; set x = 9; }", "2 3 OK",
		// an error in its block ends it
		"var x int; for x in select a as a from t { print out :x; if :x = 2 { raise; } } print out 9;", "1 2 ErrRaise",
		"var x int; try { for x in select a as a from t { print out :x; if :x = 2 { raise; } } } catch { print out :x * 100; }", "1 2 200 OK",
		// within one another
		"var x int; var y int; for x in select a as a from t { for y in select a as a from t where a < :x { print out :x * 10 + :y; } }", "21 31 32 OK",
		"var x int; for x in select a as a from t { for x in select x as x from o { print out :x; } print log :x; }", "8 1:8 8 1:8 8 1:8 OK",
	)
}

// for, over a table that its block changes: the rows are the query's, as they were ahead of the block.
func TestForAsItWas(t *testing.T) {
	runs(t,
		"var a int; for a in select a as a from t { print out :a; delete from t; }", "1 2 3 OK t none",
		"var a int; for a in select a as a from t { insert into t values (:a + 10, null); print out :a; }", "1 2 3 OK t (1 5) (2 null) (3 7) (11 null) (12 null) (13 null)",
		"var a int; var b int; for a, b in select a as a, b as b from t { update t set b = 0; print out :b; }", "5 null 7 OK t (1 0) (2 0) (3 0)",
		"var x int; for x in select x as x from o { insert into o values (:x + 1); print out :x; } for x in select x as x from o { print log :x; }", "8 1:8 1:9 OK o (8) (9)",
		"var a int; begin; delete from t where a > 1; for a in select a as a from t { rollback; print out :a; print out (select count(*) as n from t); }", "1 3 OK",
		"var a int; for a in select a as a from t { begin; delete from t where a = :a; print out (select count(*) as n from t); rollback; }", "2 2 2 OK",
	)
}

func TestInsert(t *testing.T) {
	runs(t,
		"insert into t values (4, 9);", "OK t (1 5) (2 null) (3 7) (4 9)",
		"insert into t values (4, null); print out 1;", "1 OK t (1 5) (2 null) (3 7) (4 null)",
		"var x int; var s text; set x = 6; set s = 'q'; insert into e values (:x * 2, :s || 's');", "OK e (12 'qs')",
		"insert into e values ((select sum(b) as s from t), 'x'); insert into e values ((select sum(x) as s from e), 'y');", "OK e (12 'x') (12 'y')",
		"insert into h values (2, true, null);", "OK h (1 false 'x') (1 true 'y') (2 null null) (2 true null)",
		"insert into e select a as a, 'row' as s from t where b is not null;", "OK e (1 'row') (3 'row')",
		"insert into t select a + 5 as a, b as b from t;", "OK t (1 5) (2 null) (3 7) (6 5) (7 null) (8 7)",
		"insert into e select x as x, y as y from e;", "OK",
		"insert into t values (1, 0);", "ErrKey",
		"insert into h values (1, true, 'z');", "ErrKey",
		"insert into t values (null, 0);", "ErrNull",
		"insert into full values (9, 9);", "ErrRows",
		"insert into full values (0, 9);", "ErrKey",
		"insert into full values (null, 9);", "ErrNull",
		"insert into t values (1 / 0, 0);", "ErrZero",
		"insert into t select a + 2 as a, b as b from t;", "ErrKey",
		"insert into e select a as a, null as s from t;", "ErrNull",
		"insert into e select f.x as x, 'x' as y from full as f join o on true; insert into e values (1, 'y');", "ErrRows e (0 'x') (1 'x') (2 'x') (3 'x') (4 'x') (5 'x')",
	)
}

func TestUpdate(t *testing.T) {
	runs(t,
		"update t set b = a;", "OK t (1 1) (2 2) (3 3)",
		"update t set b = 0 where a = 2;", "OK t (1 5) (2 0) (3 7)",
		"update t set b = 0 where a = 9;", "OK",
		"update t set b = b + 1 where b is not null; print out (select sum(b) as s from t);", "14 OK t (1 6) (2 null) (3 8)",
		"var x int; set x = 3; update t set b = :x where a = :x;", "OK t (1 5) (2 null) (3 3)",
		"update h set s = 'z';", "OK h (1 false 'z') (1 true 'z') (2 null 'z')",
		"update e set x = 1, y = 'a';", "OK",
		"insert into e values (1, 'a'); update e set x = x + 1, y = y || 'b'; update e set y = y || y, x = x + 1;", "OK e (3 'abab')",
		"update t set b = 1 / (a - 2);", "ErrZero",
		"update t set b = 1 where 1 / (a - 2) = 1;", "ErrZero",
		"update o set x = null;", "ErrNull",
		"update o set x = null where x = 9;", "OK",
		"update full set y = (select max(x) as m from full);", "OK full (0 5) (1 5) (2 5) (3 5) (4 5) (5 5)",
	)
}

func TestDelete(t *testing.T) {
	runs(t,
		"delete from t;", "OK t none",
		"delete from t where a > 1;", "OK t (1 5)",
		"delete from t where b > 5;", "OK t (1 5) (2 null)",
		"delete from t where null;", "OK",
		"delete from e;", "OK",
		"var x int; set x = 2; delete from t where a = :x; print out (select count(*) as n from t);", "2 OK t (1 5) (3 7)",
		"delete from h where f;", "OK h (1 false 'x') (2 null null)",
		"delete from t where 1 / (a - 2) = 1;", "ErrZero",
		"delete from full where x in (select a as a from t); insert into full values (9, 9);", "OK full (0 null) (4 null) (5 null) (9 9)",
	)
}

func TestSkip(t *testing.T) {
	runs(t,
		"skip;", "OK",
		"print out 1; skip; skip; print out 2;", "1 2 OK",
	)
}
