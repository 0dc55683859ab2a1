package app_test

import (
	"testing"

	"cordon/erase"
	"cordon/store"
)

// small is base with at most three rows in a table.
const small = "limit 3;" + base

// P24.4 and P24.5, of scripts and tables that are written out: at low both tables are the same; what comes of them is, as far as it is seen there, or a beginning, and as a whole it is not.
func TestPairs(t *testing.T) {
	const x = "var x int; "
	for _, c := range []struct {
		text         string
		a, b         string // the rows of t, s, h and n
		fuel         int
		told, others string // what is answered of each
		held         string
	}{
		// a column that is not seen
		{x + "for x in select b as b from t { print log :x; } print out 1;", "1 5", "1 6", 99, "1:5 1 OK [1 5 |  |  | ]", "1:6 1 OK [1 6 |  |  | ]", "nothing can be raised"},
		{"update t set b = 7 where b > 5; print out (select count(*) as c from t);", "1 5; 2 6", "1 6; 2 null", 99, "2 OK [1 5; 2 7 |  |  | ]", "2 OK [1 7; 2 null |  |  | ]", "what is raised is seen"},
		{"try { insert into s select b as i from t where b > 0; } catch { skip; } print log (select count(*) as c from s); print out 2;", "1 5", "1 0", 99, "1:1 2 OK [1 5 | 5 |  | ]", "1:0 2 OK [1 0 |  |  | ]", "what is raised is seen"},
		// a table that is not seen
		{x + "try { for x in select i as i from s { print log 6 / :x; } } catch { print log 'zero'; } print out 1; insert into n values (1);", "|1; 2", "|3; 0", 99, "1:6 1:3 1 OK [ | 1; 2 |  | 1]", "1:2 1:'zero' 1 OK [ | 3; 0 |  | 1]", "nothing can be raised"},
		{"proc p(n int) { if :n > 0 { print log :n; call p(:n - 1); } } print out 1; call p((select max(i) as m from s));", "|2", "|0; 1", 99, "1 1:2 1:1 OK [ | 2 |  | ]", "1 1:1 OK [ | 0; 1 |  | ]", "what is raised is not seen"},
		// hidden rows
		{"print out (select count(*) as c from h visible); print log (select count(*) as c from h); update h set v = k; delete from h where k = 2;", "||1 1; 2 2; -1 1", "||-2 0; 1 1; 2 2", 99, "2 1:3 OK [ |  | 1 1; -1 -1 | ]", "2 1:3 OK [ |  | -2 -2; 1 1 | ]", "what is raised is seen"},
		{"try { insert into h values (-1, 9); } catch { print log 1; } print out 2; insert into h values (5, 5);", "||-1 1", "||-2 2", 99, "1:1 2 OK [ |  | -1 1; 5 5 | ]", "2 OK [ |  | -2 2; -1 9; 5 5 | ]", "what is raised is not seen"},
		// what is raised is not seen
		{"print out 1; insert into h values (-1, 9); print log 2;", "||-1 1", "||", 99, "1 ErrKey [ |  | -1 1 | ]", "1 1:2 OK [ |  | -1 9 | ]", "what is raised is not seen"},
		{"print out 1; print log 6 / (select max(b) as m from t); insert into s values (1);", "1 0", "1 2", 99, "1 ErrZero [1 0 |  |  | ]", "1 1:3 OK [1 2 | 1 |  | ]", "what is raised is not seen"},
		{"print out 1; insert into s values ((select max(b) as m from t)); print log 3;", "1 null", "1 2", 99, "1 ErrNull [1 null |  |  | ]", "1 1:3 OK [1 2 | 2 |  | ]", "what is raised is not seen"},
		{"if exists (select i as i from s) { raise; } else { print log 6 / 0; }", "|1", "|", 99, "ErrRaise [ | 1 |  | ]", "ErrZero [ |  |  | ]", "what is raised is not seen"},
		// what is raised is seen
		{"print log (select max(b) as m from t); print out 6 / (select max(a) as m from t where a < 1);", "0 4", "0 5", 99, "1:4 ErrZero [0 4 |  |  | ]", "1:5 ErrZero [0 5 |  |  | ]", "what is raised is seen"},
		{x + "input x; try { set x = 6 / :x; } catch { raise; } insert into t values (1, 1); print out :x;", "1 5", "1 6", 99, "ErrKey [1 5 |  |  | ]", "ErrKey [1 6 |  |  | ]", "what is raised is seen"},
		// saved, and taken back
		{"begin; insert into t select 9 as a, b as b from t; update t set b = b; rollback; print out 1; begin; insert into n values (1); commit; rollback;", "1 5", "1 6", 99, "1 OK [1 5 |  |  | 1]", "1 OK [1 6 |  |  | 1]", "what is raised is seen"},
		// fuel that ends one of them
		{x + "print out 0; set x = (select max(b) as m from t); try { while :x > 0 { set x = :x - 1; } } catch { skip; } print out 1;", "1 2", "1 50", 30, "0 1 OK [1 2 |  |  | ]", "0 ErrFuel [1 50 |  |  | ]", "one does not end"},
		{x + "print out 0; for x in select i as i from s { print log :x; } print out 1; print out 2;", "|1; 2; 3", "|", 6, "0 1:1 1:2 ErrFuel [ | 1; 2; 3 |  | ]", "0 1 2 OK [ |  |  | ]", "one does not end"},
		{"proc p(n int) { if :n > 0 { call p(:n - 1); } } print out 0; try { call p((select max(i) as m from s)); } catch { skip; } print out 1;", "|50", "|49", 999, "0 ErrFuel [ | 50 |  | ]", "0 1 OK [ | 49 |  | ]", "one does not end"},
		{x + "print out 0; while exists (select i as i from s) { skip; } print out 1;", "|1", "|", 5000, "0 ErrFuel [ | 1 |  | ]", "0 1 OK [ |  |  | ]", "one does not end"},
		{x + "print out 0; for x in select i as i from s { skip; } print out 1; while true { print out 2; }", "|1", "|", 10, "0 1 2 2 ErrFuel [ | 1 |  | ]", "0 1 2 2 2 ErrFuel [ |  |  | ]", "neither ends"},
		// too many rows in one of them
		{"print out 0; try { insert into h values (5, 5); } catch { skip; } print out 1;", "||-1 1; -2 2; -3 3", "||-1 1", 99, "0 ErrRows [ |  | -1 1; -2 2; -3 3 | ]", "0 1 OK [ |  | -1 1; 5 5 | ]", "one does not end"},
		{"insert into s select 1 as i; print out 1; raise;", "|1; 2; 3", "|1", 99, "ErrRows [ | 1; 2; 3 |  | ]", "1 ErrRaise [ | 1; 1 |  | ]", "one does not end"},
	} {
		a := accepted(t, small, c.text)
		first, second := seeing(t, a, small, c.text, tables(c.a), one(3), c.fuel), seeing(t, a, small, c.text, tables(c.b), one(3), c.fuel)
		check(t, c.text, first.String(), c.told)
		check(t, c.text, second.String(), c.others)
		d, _, _ := store.Load(a.Catalog(), tables(c.a))
		o, _, _ := store.Load(a.Catalog(), tables(c.b))
		check(t, c.text, erase.Same(d, o, 0), true)
		check(t, c.text, first.same(second), false)
		wrong, held := breach(a.Catalog(), a.Verdict(), 0, first, second)
		check(t, c.text, wrong, "")
		check(t, c.text, held, c.held)
	}
}
