package interp_test

import (
	"fmt"
	"slices"
	"strings"
	"testing"

	"cordon/api"
	"cordon/interp"
)

// seen are variables that each statement that is tried sees, called what it can call.
const (
	seen   = "var x int; var b bool; var s text; "
	called = "proc endless() { call endless(); } proc fails(n int) { if :n = 0 { raise; } else { call fails(:n - 1); } } proc none(n int, m int) { } "
)

// where is where a statement, the @, stands, and what is told if it ends with an error, the E, that can be caught, and if it ends with another one.
type where struct{ text, caught, not string }

var wheres = []where{
	{seen + "@", "E", "E"},
	{seen + "print out 1; @ print out 2;", "1 E", "1 E"},
	{seen + "if true { print out 1; @ print out 2; } print out 3;", "1 E", "1 E"},
	{seen + "if null { } else { print out 1; @ print out 2; } print out 3;", "1 E", "1 E"},
	{seen + "while true { print out 1; @ print out 2; } print out 3;", "1 E", "1 E"},
	{seen + "for x in select a as a from t { print out :x; @ print out 2; } print out 3;", "1 E", "1 E"},
	{"proc p() { " + seen + "print out 1; @ print out 2; } call p(); print out 3;", "1 E", "1 E"},
	{"proc q() { " + seen + "print out 1; @ print out 2; } proc p() { call q(); print out 3; } if true { call p(); } print out 4;", "1 E", "1 E"},
	{seen + "begin; print out 1; @ commit; print out 2;", "1 E", "1 E"},
	// in a try
	{seen + "try { @ } catch { }", "OK", "E"},
	{seen + "try { print out 1; @ print out 2; } catch { print out 3; } print out 4;", "1 3 4 OK", "1 E"},
	{seen + "try { if true { print out 1; @ } print out 2; } catch { print out 3; } print out 4;", "1 3 4 OK", "1 E"},
	{seen + "try { while true { print out 1; @ print out 2; } } catch { print out 3; } print out 4;", "1 3 4 OK", "1 E"},
	{seen + "try { for x in select a as a from t { print out 1; @ } print out 2; } catch { print out 3; } print out 4;", "1 3 4 OK", "1 E"},
	{seen + "for x in select a as a from t { try { print out 1; @ print out 2; } catch { print out 3; } print out 4; }", "1 3 4 1 3 4 1 3 4 OK", "1 E"},
	// in a procedure that is called in a try
	{"proc p() { " + seen + "print out 1; @ print out 2; } try { call p(); print out 3; } catch { print out 4; } print out 5;", "1 4 5 OK", "1 E"},
	{"proc q() { " + seen + "print out 1; @ print out 2; } proc p() { call q(); print out 3; } try { call p(); } catch { print out 4; } print out 5;", "1 4 5 OK", "1 E"},
	{"proc q() { " + seen + "print out 1; @ print out 2; } proc p() { try { call q(); print out 3; } catch { print out 4; } print out 5; } call p(); print out 6;", "1 4 5 6 OK", "1 E"},
	{"proc p() { " + seen + "try { print out 1; @ } catch { print out 2; } print out 3; } call p(); call p();", "1 2 3 1 2 3 OK", "1 E"},
	// in a try's own catch
	{seen + "try { raise; } catch { print out 1; @ print out 2; } print out 3;", "1 E", "1 E"},
	{seen + "try { try { raise; } catch { print out 1; @ print out 2; } print out 3; } catch { print out 4; } print out 5;", "1 4 5 OK", "1 E"},
	{"proc p() { " + seen + "print out 1; @ } try { raise; } catch { call p(); print out 2; } print out 3;", "1 E", "1 E"},
	// in a try within a try
	{seen + "try { try { print out 1; @ print out 2; } catch { print out 3; } print out 4; } catch { print out 5; } print out 6;", "1 3 4 6 OK", "1 E"},
	{seen + "try { try { @ } catch { raise; } print out 1; } catch { print out 2; } print out 3;", "2 3 OK", "E"},
	{seen + "try { try { @ } catch { print out 1; @ } print out 2; } catch { print out 3; }", "1 3 OK", "E"},
	{seen + "try { try { } catch { print out 1; } @ } catch { print out 2; }", "2 OK", "E"},
	{seen + "try { print out 1; } catch { print out 2; } @ print out 3;", "1 E", "1 E"},
	{seen + "try { raise; } catch { try { print out 1; @ } catch { print out 2; } print out 3; } print out 4;", "1 2 3 4 OK", "1 E"},
}

// everywhere holds statements to how they end, wherever they stand. Of each two texts the first is the statement, the second the error's name.
func everywhere(t *testing.T, texts ...string) {
	t.Helper()
	for two := range slices.Chunk(texts, 2) {
		for _, w := range wheres {
			want := w.not
			if slices.Contains(strings.Fields("ErrOver ErrZero ErrKey ErrRaise ErrMany ErrNull ErrSingle"), two[1]) {
				want = w.caught
			}
			text := called + strings.ReplaceAll(w.text, "@", two[0])
			if strings.HasPrefix(w.text, seen) {
				text = seen + called + strings.ReplaceAll(w.text[len(seen):], "@", two[0])
			}
			check(t, text, told(t, text), strings.Replace(want, "E", two[1], 1))
		}
	}
}

// Expressions that have an error.
const (
	over   = "999999999999999999 * 10"
	zero   = "1 / (3 - 3)"
	single = "(select a as a from t)"
	rows   = "(select count(*) as n from full as a join full as b on true join full as c on true join full as d on true)"
)

// many is a text that is too long.
func many() string { return fmt.Sprintf("'%s' || '%[1]s'", strings.Repeat("m", 501)) }

// Each error of an expression, wherever one stands.
func TestErrorsOfExpressions(t *testing.T) {
	for _, e := range [][2]string{{over, "ErrOver"}, {zero, "ErrZero"}, {single, "ErrSingle"}, {rows, "ErrRows"}} {
		everywhere(t, "set x = "+e[0]+";", e[1], "print err "+e[0]+";", e[1])
		for _, text := range []string{
			"if %s = 1 { print err 1; } else { print err 2; }", "while %s is null { print err 1; }", "call none(%s, 1);", "call none(1, 2 + %s);", "insert into t values (9, %s);",
			"update t set b = %s;", "update o set x = 1 where x > %s;", "delete from t where %s = a;", "for x in select a + %s as a from t { print err 1; }", "insert into e select %s as x, 'a' as y;",
		} {
			text := fmt.Sprintf(text, e[0])
			check(t, text, told(t, seen+called+"print out 1; "+text+" print out 2;"), "1 "+e[1])
			want := "1 3 OK"
			if e[1] == "ErrRows" {
				want = "1 ErrRows"
			}
			check(t, text, told(t, seen+called+"try { print out 1; "+text+" print out 2; } catch { print out 3; }"), want)
		}
	}
	everywhere(t, "set s = "+many()+";", "ErrMany", "print out "+many()+";", "ErrMany", "set b = "+many()+" = 'm';", "ErrMany")
	everywhere(t, "set x = -(-999999999999999999 * 9) * 9;", "ErrOver", "set x = 7 % 0;", "ErrZero", "if exists (select 1 / 0 as x from t) { }", "ErrZero")
}

// Each error of a query, of its parts.
func TestErrorsOfQueries(t *testing.T) {
	everywhere(t,
		"for x in select 1 / (a - 2) as x from t { }", "ErrZero", "for x in select a as a from t where 1 / (a - 2) = 1 { }", "ErrZero", "for x in select sum("+over+") as s from t { }", "ErrOver",
		"for x in select a as a from t order by 1 / (a - 3) { }", "ErrZero", "for x in select a as a from t group by a having 1 / (a - 1) = 1 { }", "ErrZero", "for s in select s || "+many()+" as s from h { }", "ErrMany",
		"for x in select t.a as a from t join o on 1 / (a - 1) = 1 { }", "ErrZero", "for x in select a as a from t where a = "+single+" { }", "ErrSingle", "for x in select a as a from t union select "+zero+" as a { }", "ErrZero",
		"for x in select a.x as x from full as a join full as b on true join full as c on true join full as d on true { }", "ErrRows",
		"for x in select a.x as x from full as a join full as b on true join full as c on true union all (select a.x as x from full as a join full as b on true join full as c on true union all select a.x as x from full as a join full as b on true join full as c on true) { }", "ErrRows",
	)
}

// Each error of an insert, an update and a delete; with it nothing of that has changed.
func TestErrorsOfChanges(t *testing.T) {
	everywhere(t,
		"insert into t values (1, 1);", "ErrKey", "insert into h values (1, true, null);", "ErrKey", "insert into h values (1, null, null);", "ErrKey", "insert into t select a + 1 as a, b as b from t;", "ErrKey",
		"insert into t values (null, 1);", "ErrNull", "insert into e select a as a, null as y from t;", "ErrNull", "insert into t select b as a, a as b from t;", "ErrNull",
		"insert into full values (7, 7);", "ErrRows", "insert into full select x + 6 as x, y as y from full;", "ErrRows", "insert into full values (5, 7);", "ErrKey", "insert into full values (7, "+zero+");", "ErrZero",
		"insert into e values (1, "+many()+");", "ErrMany", "insert into o values ("+over+");", "ErrOver", "insert into o values ("+single+");", "ErrSingle", "insert into o values ("+rows+");", "ErrRows",
		"update o set x = null;", "ErrNull", "update h set s = "+many()+";", "ErrMany", "update t set b = b / (a - 3);", "ErrZero", "update t set b = a * "+over+" where a = 2;", "ErrOver", "update t set b = "+single+";", "ErrSingle",
		"update o set x = 1 where x / 0 = 1;", "ErrZero", "update t set b = "+rows+";", "ErrRows",
		"delete from t where a / (a - 3) = 1;", "ErrZero", "delete from t where a > "+over+";", "ErrOver", "delete from h where s = "+many()+";", "ErrMany", "delete from t where a = "+single+";", "ErrSingle", "delete from t where a < "+rows+";", "ErrRows",
	)
}

// raise, calls whose procedure raises something, and what can't be caught: the want of fuel, and of calls.
func TestRaise(t *testing.T) {
	everywhere(t,
		"raise;", "ErrRaise", "if true { raise; }", "ErrRaise", "while true { raise; }", "ErrRaise", "for x in select a as a from t { raise; }", "ErrRaise", "call fails(0);", "ErrRaise", "call fails(7);", "ErrRaise",
		"try { raise; } catch { raise; }", "ErrRaise", "try { skip; } catch { } raise;", "ErrRaise", "call fails(1 / 0);", "ErrZero", "call fails(null);", "ErrFuel",
		"call endless();", "ErrFuel", "while true { }", "ErrFuel", "while true { try { raise; } catch { } }", "ErrFuel", "try { call endless(); } catch { }", "ErrFuel", "try { raise; } catch { insert into full values (9, 9); }", "ErrRows",
	)
}

// The first error is the one: what stands behind it is not done.
func TestFirstError(t *testing.T) {
	runs(t,
		"raise; print out 1 / 0;", "ErrRaise", "print out 1 / 0; raise;", "ErrZero",
		"try { raise; } catch { print out 1 / 0; } raise;", "ErrZero", "try { print out 1 / 0; } catch { raise; }", "ErrRaise",
		"try { raise; raise; print out 1; } catch { print out 2; }", "2 OK", "insert into t values (1 / 0, "+over+");", "ErrZero", "insert into t values ("+over+", 1 / 0);", "ErrOver",
	)
}

// What was done ahead of an error in a try stays: tables, variables, what was told, inputs, and what is saved.
func TestStays(t *testing.T) {
	runs(t,
		"var x int; try { set x = 1; insert into o values (9); print out 2; update t set b = 0 where a = 1; delete from h; raise; } catch { print out :x; print out (select count(*) as n from o); }", "2 1 2 OK t (1 0) (2 null) (3 7) h none o (8) (9)",
		"var x int; try { set x = 1; insert into o values (9); insert into o values (null); } catch { set x = :x + 1; } print out :x;", "2 OK o (8) (9)",
		"proc p() { insert into o values (9); print out 1; raise; } try { call p(); } catch { } try { call p(); } catch { }", "1 1 OK o (8) (9) (9)",
		"try { try { insert into o values (1); raise; } catch { insert into o values (2); raise; } } catch { insert into o values (3); }", "OK o (8) (1) (2) (3)",
		"try { begin; delete from o; raise; } catch { print out 1; } rollback;", "1 OK",
		"begin; delete from o; try { commit; raise; } catch { } rollback;", "OK o none",
		"var x int; for x in select a as a from t { try { insert into t values (:x + 1, 0); print out :x; } catch { insert into e values (:x, 'no'); } }", "3 OK t (1 5) (2 null) (3 7) (4 0) e (1 'no') (2 'no')",
	)
	p := programOf(t, ourCatalog(), "var x int; try { input x; input x; raise; } catch { input x; } print out :x;")
	check(t, "inputs", watched(t, ask{ours(), p, one(1, 2, 3, 4), 100}).text(ours()), "3 OK")
}

// What is answered beside an error: the tables then, and what was told.
func TestBesideAnError(t *testing.T) {
	for _, c := range [][2]string{
		{"print out 1; insert into o values (9); raise; print out 2; delete from o;", "1 ErrRaise o (8) (9)"},
		{"print out 1; insert into o values (9); print log 1 / 0;", "1 ErrZero o (8) (9)"},
		{"insert into o values (9); insert into full values (9, 9);", "ErrRows o (8) (9)"},
		{"delete from t; print log 'x'; while true { }", "1:'x' ErrFuel t none"},
		{"proc p() { insert into o values (9); print out 1; call p(); } call p();", "1 1 1 1 1 ErrRows o (8) (9) (9) (9) (9) (9)"},
		{"begin; insert into o values (9); raise;", "ErrRaise o (8) (9)"},
		{"begin; insert into o values (9); rollback; insert into o values (7); raise;", "ErrRaise o (8) (7)"},
		{"insert into o select a as a from t; insert into e select a as a, null as y from t;", "ErrNull o (8) (1) (2) (3)"},
		{"raise;", "ErrRaise"}, {"print out 1 / 0;", "ErrZero"},
	} {
		check(t, c[0], told(t, c[0]), c[1])
	}
	got := answerOf(interp.Run(ours(), programOf(t, ourCatalog(), "raise;"), nil, 5))
	if got.tables == nil || !got.tables.Same(ours()) || len(got.told) != 0 || got.err != api.ErrRaise {
		t.Errorf("%+v", got)
	}
}
