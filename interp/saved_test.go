package interp_test

import (
	"fmt"
	"testing"

	"cordon/api"
)

// begin, commit and rollback, each alone, and in each order.
func TestSaved(t *testing.T) {
	runs(t,
		"begin; delete from o;", "OK o none",
		"delete from o; commit;", "OK o none",
		"delete from o; rollback;", "OK o none",
		"begin; delete from o; rollback;", "OK",
		"begin; delete from o; commit;", "OK o none",
		"begin; delete from o; commit; rollback;", "OK o none",
		"begin; delete from o; rollback; commit;", "OK",
		"commit; begin; delete from o; rollback;", "OK",
		"rollback; begin; delete from o; rollback;", "OK",
		"delete from o; begin; rollback;", "OK o none",
		"begin; begin; delete from o; rollback;", "OK",
		// twice
		"begin; insert into o values (1); begin; insert into o values (2); rollback;", "OK",
		"begin; insert into o values (1); begin; insert into o values (2); rollback; rollback;", "OK",
		"begin; insert into o values (1); begin; insert into o values (2); commit; rollback;", "OK o (8) (1) (2)",
		"begin; insert into o values (1); rollback; insert into o values (2); rollback;", "OK o (8) (2)",
		"begin; insert into o values (1); commit; insert into o values (2); rollback;", "OK o (8) (1) (2)",
		"begin; insert into o values (1); commit; begin; insert into o values (2); rollback;", "OK o (8) (1)",
		"begin; insert into o values (1); rollback; begin; insert into o values (2); rollback; insert into o values (3);", "OK o (8) (3)",
		"begin; insert into o values (1); rollback; begin; insert into o values (2); commit;", "OK o (8) (2)",
		"begin; commit; commit; begin; rollback; rollback; begin; delete from t;", "OK t none",
		"rollback; rollback; commit; commit; delete from t; rollback; commit;", "OK t none",
	)
}

// All orders of so many of these, with a row between each two: what there is then is what was there when a copy was saved, and what came behind the rollback.
func TestSavedInAllOrders(t *testing.T) {
	words := one("begin;", "commit;", "rollback;")
	c := catalogOf("levels low; channel out low; table o rows low (x int low);")
	for code := range 729 {
		text, rows, saved, has := "", []int{}, []int(nil), false
		for i := range 6 {
			word := words[code%3]
			code /= 3
			text += fmt.Sprintf("insert into o values (%d); %s ", i, word)
			rows = append(rows[:len(rows):len(rows)], i)
			switch {
			case word == "begin;" && !has:
				saved, has = rows, true
			case word == "commit;":
				has = false
			case word == "rollback;" && has:
				rows, has = saved, false
			}
		}
		d := loaded(c)
		got := watched(t, ask{d, programOf(t, c, text), nil, 100})
		check(t, text, got.text(d), "OK o "+rowsTold(numbered(len(rows), func(i int) rowOf { return row(rows[i]) })))
	}
}

// What is saved is all tables, hidden rows among them, and nothing else: variables, what was told and inputs go on.
func TestSavedIsTables(t *testing.T) {
	runs(t,
		"var x int; begin; set x = 1; print out 2; delete from t; delete from h; insert into e values (1, 'a'); update o set x = 9; rollback; print out :x; print out (select count(*) as n from h);", "2 1 3 OK",
		"begin; delete from t where a = 1; insert into t values (1, 9); rollback; insert into t values (4, 4);", "OK t (1 5) (2 null) (3 7) (4 4)",
		"begin; delete from h where f; rollback; try { insert into h values (1, true, null); } catch { print out 1; }", "1 OK",
		"begin; delete from t; insert into t values (7, 7); rollback; insert into t values (7, 8); try { insert into t values (1, 1); } catch { print out 1; }", "1 OK t (1 5) (2 null) (3 7) (7 8)",
		"begin; delete from full; rollback; insert into full values (9, 9);", "ErrRows",
		"begin; delete from full; commit; insert into full values (9, 9);", "OK full (9 9)",
	)
}

// After a rollback the same may be done again; a later change does not change the saved copy, nor does one behind a rollback change what was saved then.
func TestSavedAgain(t *testing.T) {
	runs(t,
		"begin; insert into t values (9, 9); print out 1; rollback; begin; insert into t values (9, 9); print out 2; rollback; insert into t values (9, 9);", "1 2 OK t (1 5) (2 null) (3 7) (9 9)",
		"var x int; set x = 0; while :x < 3 { set x = :x + 1; begin; insert into t values (9, :x); print out (select b as b from t where a = 9); rollback; }", "1 2 3 OK",
		"var x int; set x = 0; while :x < 3 { set x = :x + 1; begin; insert into t values (9 + :x, :x); commit; begin; delete from t; rollback; }", "OK t (1 5) (2 null) (3 7) (10 1) (11 2) (12 3)",
		"begin; update o set x = 1; update o set x = 2; insert into o values (3); delete from o where x = 2; rollback; print out (select x as x from o);", "8 OK",
		"begin; update o set x = 1; rollback; update o set x = 2; begin; update o set x = 3; rollback; print out (select x as x from o); rollback;", "2 OK o (2)",
		"begin; insert into o values (1); begin; delete from o; begin; rollback; print out (select count(*) as n from o);", "1 OK",
	)
}

// In a procedure, and across procedures: there is one saved copy for all.
func TestSavedInProcedures(t *testing.T) {
	procs := "proc b() { begin; } proc c() { commit; } proc r() { rollback; } proc d() { delete from o; } proc whole() { begin; delete from o; rollback; } "
	runs(t,
		procs+"call b(); call d(); call r();", "OK",
		procs+"call b(); call d(); call c(); call r();", "OK o none",
		procs+"begin; call d(); call r();", "OK",
		procs+"call b(); delete from o; rollback;", "OK",
		procs+"call whole(); print out (select count(*) as n from o);", "1 OK",
		procs+"begin; delete from t; call whole();", "OK",
		procs+"begin; delete from t; call whole(); delete from o; rollback;", "OK o none",
		procs+"call d(); call whole();", "OK o none",
	)
}

// Around a try, in it, in its catch, and with an error between.
func TestSavedAndErrors(t *testing.T) {
	runs(t,
		"begin; try { delete from o; raise; } catch { print out 1; } rollback;", "1 OK",
		"begin; try { delete from o; raise; } catch { rollback; }", "OK",
		"begin; try { delete from o; raise; } catch { commit; } rollback;", "OK o none",
		"try { begin; delete from o; raise; rollback; } catch { print out 1; }", "1 OK o none",
		"try { begin; delete from o; raise; } catch { rollback; print out 1; }", "1 OK",
		"try { begin; delete from o; raise; } catch { } delete from t; rollback;", "OK",
		"begin; delete from o; try { rollback; delete from t; raise; } catch { rollback; }", "OK t none",
		"try { delete from o; begin; delete from t; insert into full values (0, 0); } catch { rollback; }", "OK o none",
		// what ends the run takes nothing back
		"begin; delete from o; raise; rollback;", "ErrRaise o none",
		"begin; delete from o; insert into full values (7, 7); rollback;", "ErrRows o none",
		"begin; delete from o; while true { } rollback;", "ErrFuel o none",
		"begin; delete from o; rollback; raise;", "ErrRaise",
		"begin; delete from o; commit; raise;", "ErrRaise o none",
		"proc p() { call p(); } begin; delete from o; call p(); rollback;", "ErrFuel o none",
		"proc p() { begin; delete from o; raise; } try { call p(); } catch { rollback; }", "OK",
	)
}

// The store that was handed in stays as it was, and is not what is answered, whatever of these a program does; what is answered may be changed, and another run finds it as it is.
func TestStoreStays(t *testing.T) {
	for _, text := range []string{
		"", "skip;", "begin;", "rollback;", "begin; rollback;", "begin; delete from o; rollback;", "begin; delete from o; commit;", "delete from o; delete from t;", "raise;", "delete from o; raise;",
		"begin; rollback; delete from o; begin; rollback; insert into o values (3);", "update t set b = 1; update h set s = 'a'; insert into e values (1, 'a');", "while true { delete from t; }", "insert into full values (9, 9);",
	} {
		p, d := programOf(t, ourCatalog(), text), ours()
		first := watched(t, ask{d, p, nil, 50})
		kept := first.tables.Copy()
		for i := range tableNames {
			if err := first.tables.Put(i, nil); err != api.OK {
				t.Fatal(err)
			}
		}
		if !d.Same(ours()) {
			t.Errorf("%q: the store hangs on what was answered", text)
		}
		next := watched(t, ask{d, p, nil, 50})
		for i := range tableNames {
			d.Put(i, nil)
		}
		if !next.tables.Same(kept) || next.err != first.err {
			t.Errorf("%q: what is answered hangs on the store, or on an answer ahead", text)
		}
		if d.Same(ours()) {
			t.Errorf("%q: the store could not be changed", text)
		}
	}
}
