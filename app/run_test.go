package app_test

import (
	"math"
	"slices"
	"strings"
	"testing"

	"cordon/api"
	"cordon/app"
	"cordon/interp"
	"cordon/store"
	"cordon/value"
)

// room is a schema for runs: a table with a key, one with hidden rows, and one with columns of all types; three rows are the most.
const room = "levels low, high; order low < high; channel out low; channel log high; limit 3;" +
	"table t rows low (a int low, b int null low) key (a);" +
	"table h rows low (k int low, f bool null low) key (k) hide high when f;" +
	"table w rows low (i int null low, s text low, g bool null high);"

// seeing runs an application, and looks whether what is handed in stays as it is, whether a second run answers the same, and whether that is what layers 12 and 16 answer.
func seeing(t testing.TB, a *app.App, of, text string, rows tablesOf, inputs []int, fuel int) answer {
	t.Helper()
	handed, ahead := roomy(rows), roomy(inputs)
	got := answerOf(a.Run(handed, ahead, fuel))
	if !same(handed, rows) || !hasRoom(handed) || !same(ahead, inputs) || !hasRoom(ahead) {
		t.Errorf("%s: what was handed in is changed", text)
	}
	c, p := parts(t, of, text)
	d, _, err := store.Load(c, rows)
	want := answer{err: err}
	if err == api.OK {
		want = answerOf(interp.Run(d, p, inputs, fuel))
	}
	check(t, text, got.same(want), true)
	check(t, text, answerOf(a.Run(rows, inputs, fuel)).same(got), true)
	if got.tables != nil {
		check(t, text, got.tables.Catalog() == a.Catalog(), true)
	}
	return got
}

// runs holds a script to what it answers over some tables.
func runs(t *testing.T, text, rows string, fuel int, want string, inputs ...int) {
	t.Helper()
	a := accepted(t, room, text)
	check(t, text, seeing(t, a, room, text, tables(rows), inputs, fuel).String(), want)
}

const few = "1 5; 2 null | 1 false; 1 true | 7 'x' null"

// P24.3: else interp.Run.
func TestRun(t *testing.T) {
	for _, x := range []struct{ text, want string }{
		{"", "OK [" + few + "]"}, {"skip;", "OK [" + few + "]"},
		// that print
		{"print out 1; print log 'a'; print out null; print out true;", "1 1:'a' null true OK [" + few + "]"}, {"print out (select count(*) as c from t); print log (select count(*) as c from h); print out (select count(*) as c from h visible);", "2 1:2 1 OK [" + few + "]"}, {"var x int; print out :x; for x in select b as b from t { print out :x; }", "null 5 null OK [" + few + "]"},
		// that raise
		{"print out 1; raise; print out 2;", "1 ErrRaise [" + few + "]"}, {"delete from t; print out 1 / 0; print out 2;", "ErrZero [ | 1 false; 1 true | 7 'x' null]"}, {"print out 999999999999999999 * 999999999999999999;", "ErrOver [" + few + "]"}, {"insert into t values (2, 2);", "ErrKey [" + few + "]"}, {"insert into h values (1, true);", "ErrKey [" + few + "]"},
		{"insert into t values (null, 2);", "ErrNull [" + few + "]"}, {"print out (select a as a from t);", "ErrSingle [" + few + "]"}, {"var s text; set s = '" + strings.Repeat("s", 501) + "'; print out :s || :s;", "ErrMany [" + few + "]"}, {"insert into t values (3, 3); print out 1; insert into t values (4, 4); print out 2;", "1 ErrRows [1 5; 2 null; 3 3 | 1 false; 1 true | 7 'x' null]"},
		{"try { print out 1; raise; print out 2; } catch { print out 3; } print out 4;", "1 3 4 OK [" + few + "]"}, {"try { insert into t values (3, 3); insert into t values (4, 4); } catch { print out 3; }", "ErrRows [1 5; 2 null; 3 3 | 1 false; 1 true | 7 'x' null]"},
		// that change tables
		{"insert into t values (3, 4); update t set b = a where b is null; delete from t where a = 1;", "OK [2 2; 3 4 | 1 false; 1 true | 7 'x' null]"}, {"insert into w select a as i, 'new' as s, null as g from t; update w set g = i > 1; delete from h;", "OK [1 5; 2 null |  | 7 'x' true; 1 'new' false; 2 'new' true]"},
		// that save, and roll back
		{"begin; delete from t; print out 1; rollback; insert into t values (3, null);", "1 OK [1 5; 2 null; 3 null | 1 false; 1 true | 7 'x' null]"}, {"begin; delete from t; commit; rollback;", "OK [ | 1 false; 1 true | 7 'x' null]"}, {"begin; delete from t; raise;", "ErrRaise [ | 1 false; 1 true | 7 'x' null]"}, {"rollback; delete from w; begin; begin; delete from h; rollback; delete from t;", "OK [ | 1 false; 1 true | ]"},
		// with procedures
		{"var x int; proc p(n int) { print out :n; if :n > 0 { call p(:n - 1); } } set x = 2; call p(:x); print out :x;", "2 1 0 2 OK [" + few + "]"}, {"proc p() { call p(); } call p();", "ErrFuel [" + few + "]"},
	} {
		runs(t, x.text, few, api.MaxFuel, x.want)
	}
}

func TestInputs(t *testing.T) {
	const text = "var x int; var y int; input x; input y; print out :x; print out :y; input x; print out :x;"
	runs(t, text, "", 99, "null null null OK [ |  | ]")
	runs(t, text, "", 99, "7 null null OK [ |  | ]", 7)
	runs(t, text, "", 99, "7 -8 null OK [ |  | ]", 7, -8)
	runs(t, text, "", 99, "7 -8 0 OK [ |  | ]", 7, -8, 0)
	runs(t, text, "", 99, "7 -8 0 OK [ |  | ]", 7, -8, 0, 5, 6)
	runs(t, text, "", 99, "9223372036854775807 -9223372036854775808 null OK [ |  | ]", math.MaxInt, math.MinInt)
	runs(t, text, "", 3, "7 ErrFuel [ |  | ]", 7, 8)
	runs(t, "print out 1;", "", 99, "1 OK [ |  | ]", 4, 5, 6)
}

func TestFuel(t *testing.T) {
	const text = "print out 1; delete from t; print out 2; while true { print log 3; }"
	for fuel, want := range map[int]string{
		math.MinInt: "ErrFuel [1 5 |  | ]", -1: "ErrFuel [1 5 |  | ]", 0: "ErrFuel [1 5 |  | ]", 1: "1 ErrFuel [1 5 |  | ]", 2: "1 ErrFuel [ |  | ]", 3: "1 2 ErrFuel [ |  | ]", 4: "1 2 ErrFuel [ |  | ]", 5: "1 2 ErrFuel [ |  | ]", 6: "1 2 1:3 ErrFuel [ |  | ]", 7: "1 2 1:3 ErrFuel [ |  | ]", 8: "1 2 1:3 1:3 ErrFuel [ |  | ]",
	} {
		runs(t, text, "1 5", fuel, want)
	}
	for _, fuel := range []int{-1, 0} {
		runs(t, "", "1 5", fuel, "OK [1 5 |  | ]")
	}
	runs(t, "print out 1; print out 2;", "", 1, "1 ErrFuel [ |  | ]")
	runs(t, "print out 1; print out 2;", "", 2, "1 2 OK [ |  | ]")
	most := answerOf(accepted(t, room, "while true { print out 1; }").Run(nil, nil, api.MaxFuel))
	for _, fuel := range []int{api.MaxFuel + 1, math.MaxInt} {
		check(t, "more than there may be", answerOf(accepted(t, room, "while true { print out 1; }").Run(nil, nil, fuel)).same(most), true)
	}
}

// nothing looks for an error beside which there are no tables, and nothing was told.
func nothing(t testing.TB, what any, got answer, want api.Errno) {
	t.Helper()
	check(t, what, errNames[got.err], errNames[want])
	if got.tables != nil || len(got.told) > 0 {
		t.Errorf("%v: %v", what, got)
	}
}

// P24.3: ErrNil ahead of all.
func TestRunOfNobody(t *testing.T) {
	for i, a := range nobodies() {
		for _, rows := range []tablesOf{nil, {}, tables("1 5"), {{{{Type: 9}}}}, make(tablesOf, 99)} {
			for _, fuel := range []int{-1, 0, 9, api.MaxFuel} {
				nothing(t, i, answerOf(a.Run(rows, one(1, 2), fuel)), api.ErrNil)
				nothing(t, i, answerOf(a.Run(rows, nil, fuel)), api.ErrNil)
			}
		}
	}
}

// P24.3: ErrFlow ahead of what is wrong with tables, and of what a run would end with; nothing runs.
func TestRunOfOneThatIsNotAccepted(t *testing.T) {
	for _, text := range refusedByFlow() {
		for _, before := range []string{"", "print out 1; ", "print out 1 / 0; "} {
			a, _ := app.New(base, strings.Replace(text, "print out", before+"print out", 1))
			for _, rows := range []tablesOf{nil, tables("1 5 | 3"), tables("1"), tables("'x' 'y'"), {{{{Type: 9}}}}, make(tablesOf, 99), tables("1 5; 1 5")} {
				for _, fuel := range []int{-1, 0, 9, api.MaxFuel} {
					nothing(t, text, answerOf(a.Run(rows, one(1, 2), fuel)), api.ErrFlow)
				}
			}
		}
	}
}

// fault is rows of the second table of room that are refused.
type fault struct {
	rows [][]api.Value
	err  api.Errno
}

func row(l ...api.Value) []api.Value { return l }

// faults are some for each error of layer 12.
func faults() []fault {
	right, yes := value.Int(1), value.Bool(true)
	return []fault{
		{one(row()), api.ErrShape}, {one(row(right)), api.ErrShape}, {one(row(right, yes, yes)), api.ErrShape}, {one(row(right, yes), nil), api.ErrShape},
		{one(row(api.Value{N: 1}, yes)), api.ErrArg}, {one(row(right, api.Value{Type: api.TyBool, N: 2})), api.ErrArg}, {one(row(api.Value{Type: 4}, yes)), api.ErrArg}, {one(row(right, yes), row(api.Value{Type: -1}, value.Int(3))), api.ErrArg},
		{one(row(value.Text(strings.Repeat("x", api.MaxText+1)), yes)), api.ErrMany}, {one(row(value.Null(), yes)), api.ErrNull}, {one(row(value.Null(), right)), api.ErrNull},
		{one(row(yes, yes)), api.ErrType}, {one(row(value.Text("1"), yes)), api.ErrType}, {one(row(right, right)), api.ErrType},
		{numbered(4, func(i int) []api.Value { return row(value.Int(i), yes) }), api.ErrRows}, {numbered(4, func(i int) []api.Value { return row(right, yes) }), api.ErrRows},
		{one(row(right, yes), row(right, yes)), api.ErrKey}, {one(row(right, value.Null()), row(value.Int(2), yes), row(right, value.Bool(false))), api.ErrKey},
	}
}

// bothIn are the rows of two faults in one table, and which error is told: what does not fit ahead of too many, and that ahead of what collides; of rows that do not fit the first.
func bothIn(f, g fault) ([][]api.Value, api.Errno) {
	late := []api.Errno{api.ErrRows, api.ErrKey}
	rows := slices.Concat(f.rows, g.rows)
	switch {
	case !slices.Contains(late, f.err):
		return rows, f.err
	case !slices.Contains(late, g.err):
		return rows, g.err
	}
	return rows, api.ErrRows // of two such there are more than three rows
}

// P24.3: store.Load's error; of several rows, and tables, the one that layer 12 names first. The script would raise something itself, but it is not come to.
func TestTablesThatDoNotFit(t *testing.T) {
	const text = "print out 1; raise;"
	a := accepted(t, room, text)
	check(t, "right ones", seeing(t, a, room, text, tables(few), nil, 9).String(), "1 ErrRaise ["+few+"]")
	refused := func(want api.Errno, rows ...[][]api.Value) {
		t.Helper()
		nothing(t, rows, seeing(t, a, room, text, rows, nil, 9), want)
		nothing(t, rows, seeing(t, a, room, text, rows, one(1), 0), want)
	}
	came := map[api.Errno]int{}
	for _, f := range faults() {
		came[f.err]++
		right, ahead, behind := tables(few), rowsOf("'x' null"), rowsOf("1")
		refused(f.err, right[0], f.rows, right[2])
		refused(f.err, nil, f.rows)
		refused(f.err, right[0], f.rows, behind)
		refused(api.ErrType, ahead, f.rows, behind)
		for _, g := range faults() {
			both, want := bothIn(f, g)
			refused(want, right[0], both, right[2])
		}
	}
	enough(t, came, 1, api.ErrShape, api.ErrArg, api.ErrMany, api.ErrNull, api.ErrType, api.ErrRows, api.ErrKey)
}

// Lists too many are ErrArg, ahead of what is wrong with a row; of lists too few the other tables have no rows.
func TestListsTooManyAndTooFew(t *testing.T) {
	const text = "print out (select count(*) as c from t); print out (select count(*) as c from w);"
	a := accepted(t, room, text)
	for rows, want := range map[string]string{"": "0 0 OK [ |  | ]", "1 5": "1 0 OK [1 5 |  | ]", "1 5 | 1 true": "1 0 OK [1 5 | 1 true | ]", "1 5 | 1 true | ": "1 0 OK [1 5 | 1 true | ]", few: "2 1 OK [" + few + "]", " | | null '' true": "0 1 OK [ |  | null '' true]"} {
		check(t, rows, seeing(t, a, room, text, tables(rows), nil, 99).String(), want)
	}
	for _, rows := range []tablesOf{nil, {}, {nil}, {{}}, {nil, nil, nil}, {{}, {}, {}}} {
		check(t, len(rows), seeing(t, a, room, text, rows, nil, 99).String(), "0 0 OK [ |  | ]")
	}
	for _, rows := range []tablesOf{make(tablesOf, 4), {{}, {}, {}, {}}, tables(few + " | 1 2"), tables("1 | 2 | 3 | 4"), tables("1 5; 1 5 | | | "), make(tablesOf, 1000)} {
		nothing(t, len(rows), seeing(t, a, room, text, rows, one(1), 99), api.ErrArg)
	}
	bare := "levels low; channel out low;"
	b := accepted(t, bare, "print out 1;")
	nothing(t, "no tables", seeing(t, b, bare, "print out 1;", make(tablesOf, 1), nil, 9), api.ErrArg)
	check(t, "no tables", seeing(t, b, bare, "print out 1;", tablesOf{}, nil, 9).String(), "1 OK []")
}

// As many rows as there may be, in as many tables.
func TestTheMost(t *testing.T) {
	of := "levels low; channel out low; " + listed(api.MaxTables, "table t# rows low (a int low) key (a); ")
	text := "insert into t19 values (-1);"
	a := accepted(t, of, text)
	rows := numbered(api.MaxTables, func(int) [][]api.Value {
		return numbered(api.MaxRows, func(i int) []api.Value { return row(value.Int(i)) })
	})
	got := seeing(t, a, of, text, rows, nil, 9)
	check(t, "as many", got.err, api.ErrRows)
	check(t, "as many", same(rowsIn(got.tables), rows), true)
	rows[19] = rows[19][:99]
	got = seeing(t, a, of, text, rows, nil, 9)
	check(t, "one fewer", got.err, api.OK)
	check(t, "one fewer", rowsTold(got.tables.Rows(19)[99:]), "-1")
	rows[18] = append(rows[18], row(value.Int(-1)))
	nothing(t, "one more", seeing(t, a, of, text, rows, nil, 9), api.ErrRows)
}
