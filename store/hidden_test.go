package store_test

import (
	"math"
	"strings"
	"testing"

	"cordon/api"
	"cordon/schema"
	"cordon/store"
	"cordon/syntax"
)

// pairs is a table with two columns of each type, that hides rows by a predicate.
func pairs(when string) string {
	return levels + "table t rows low (a int null low, b int null low, s text null low, u text null low, f bool null low, g bool null low) hide high when " + when + ";"
}

// pairOf is a row of it.
func pairOf(a, b, s, u, f, g any) rowOf { return row(a, b, s, u, f, g) }

// P12.3, Hidden

func TestHiddenComparisons(t *testing.T) {
	marks := []string{"=", "<>", "<", "<=", ">", ">="}
	// What each mark says of two values of which the first is smaller, of two that are the same, and of two of which it is greater.
	want := map[string][3]bool{"=": {false, true, false}, "<>": {true, false, true}, "<": {true, false, false}, "<=": {true, true, false}, ">": {false, false, true}, ">=": {false, true, true}}
	rising := [][]any{
		{math.MinInt, math.MinInt + 1, -1, 0, 1, 2, math.MaxInt - 1, math.MaxInt},
		{"", "\x00", "\x00\x00", "A", "a", "a\x00", "ab", "b", "\x7f", "\xff", "\xff\x00", "\xff\xff"},
		{false, true},
	}
	names := [][2]string{{"a", "b"}, {"s", "u"}, {"f", "g"}}
	for _, mark := range marks {
		for kind, values := range rising {
			d := fresh(t, pairs(names[kind][0]+" "+mark+" "+names[kind][1]))
			place := 2 * kind
			for i, x := range values {
				for j, y := range values {
					r := make(rowOf, 6)
					r[place], r[place+1] = val(x), val(y)
					standing := 1
					if i < j {
						standing = 0
					} else if i > j {
						standing = 2
					}
					if got := d.Hidden(0, r); got != want[mark][standing] {
						t.Errorf("%v %s %v: %v", x, mark, y, got)
					}
				}
				for _, r := range [][2]any{{x, nil}, {nil, x}, {nil, nil}} {
					with := make(rowOf, 6)
					with[place], with[place+1] = val(r[0]), val(r[1])
					if d.Hidden(0, with) {
						t.Errorf("%v %s %v is true", r[0], mark, r[1])
					}
				}
			}
		}
	}
}

// What is not true is false or null: which of both, is tells.
func TestHiddenOfUnlikeTypes(t *testing.T) {
	for _, mark := range []string{"=", "<>", "<", "<=", ">", ">="} {
		plain, null := fresh(t, pairs("a "+mark+" b")), fresh(t, pairs("(a "+mark+" b) is null"))
		not, or := fresh(t, pairs("not (a "+mark+" b)")), fresh(t, pairs("(a "+mark+" b) or true"))
		for _, v := range right() {
			for _, w := range right() {
				unlike := v.Type != w.Type || v.Type == api.TyNull
				r := row(v, w, nil, nil, nil, nil)
				if plain.Hidden(0, r) && unlike || not.Hidden(0, r) && unlike || null.Hidden(0, r) != unlike || !or.Hidden(0, r) {
					t.Errorf("%s %s %s", told(rowOf{v}), mark, told(rowOf{w}))
				}
				if !unlike && plain.Hidden(0, r) == not.Hidden(0, r) {
					t.Errorf("not %s %s %s", told(rowOf{v}), mark, told(rowOf{w}))
				}
			}
		}
	}
}

func TestHiddenAndOrNot(t *testing.T) {
	truths := []any{true, false, nil}
	index := func(v api.Value) int {
		switch v {
		case val(true):
			return 0
		case val(false):
			return 1
		}
		return 2
	}
	and := [3][3]any{{true, false, nil}, {false, false, false}, {nil, false, nil}}
	or := [3][3]any{{true, true, true}, {true, false, nil}, {true, nil, nil}}
	not := [3]any{false, true, nil}
	comes := func(what string, r rowOf, want any) {
		t.Helper()
		if got := fresh(t, pairs(what)).Hidden(0, r); got != (want == true) {
			t.Errorf("%s of %s is true: %v", what, told(r), got)
		}
		if got := fresh(t, pairs("("+what+") is null")).Hidden(0, r); got != (want == nil) {
			t.Errorf("%s of %s is null: %v", what, told(r), got)
		}
	}
	for i, x := range truths {
		for j, y := range truths {
			r := pairOf(nil, nil, nil, nil, x, y)
			comes("f and g", r, and[i][j])
			comes("f or g", r, or[i][j])
			comes("not (f and g)", r, not[index(val(and[i][j]))])
			comes("(not f) or (not g)", r, not[index(val(and[i][j]))])
		}
		comes("not f", pairOf(nil, nil, nil, nil, x, nil), not[i])
		comes("f", pairOf(nil, nil, nil, nil, x, nil), x)
		for _, y := range []any{0, 1, "", "a"} { // with a value of another type there is no answer, whatever the other one is
			for _, r := range []rowOf{pairOf(nil, nil, nil, nil, x, y), pairOf(nil, nil, nil, nil, y, x)} {
				comes("f and g", r, nil)
				comes("f or g", r, nil)
			}
			comes("not f", pairOf(nil, nil, nil, nil, y, x), nil)
		}
	}
	comes("f", pairOf(nil, nil, nil, nil, 1, nil), false)
}

func TestHiddenIsNull(t *testing.T) {
	is, not := fresh(t, pairs("a is null")), fresh(t, pairs("a is not null"))
	for _, v := range right() {
		r := row(v, 1, "a", "a", true, true)
		if want := v == val(nil); is.Hidden(0, r) != want || not.Hidden(0, r) == want {
			t.Errorf("%s: %v and %v", told(r), is.Hidden(0, r), not.Hidden(0, r))
		}
	}
	for n, want := range map[int]bool{0: true, 1: false, 2: true, -1: true} { // with N 1 alone: is it not
		d := hiding(t, api.Expr{Kind: api.ExIs, N: n, Kids: []api.Expr{{Kind: api.ExCol, S: "a"}}})
		if d.Hidden(0, row(nil)) != want || d.Hidden(0, row(5)) == want {
			t.Errorf("is, with N %d", n)
		}
	}
}

func TestHiddenCase(t *testing.T) {
	for _, c := range []struct {
		when  string
		f, g  any
		hides bool
	}{
		{"case when f then g else not g end", true, true, true},
		{"case when f then g else not g end", true, false, false},
		{"case when f then g else not g end", false, true, false},
		{"case when f then g else not g end", false, false, true},
		{"case when f then g else not g end", nil, false, true},
		{"case when f then g else not g end", nil, true, false},
		{"case when f then g else not g end", true, nil, false},
		{"case when f then null else true end", true, nil, false},
		{"case when f then null else true end", false, nil, true},
		{"case when f then null else true end", nil, nil, true},
		{"case when null then false else g end", nil, true, true},
		{"case when f then true else null end", 1, nil, false}, // 1 is not true
		{"case when f then false else true end", 1, nil, true},
		{"case when f then false else true end", "true", nil, true},
		{"case when f then 1 else 2 end = 1", true, nil, true},
		{"case when f then 1 else 2 end = 1", false, nil, false},
		{"case when f then 1 else 2 end = 2", nil, nil, true},
		{"case when f then 'a' else s end is null", nil, nil, true},
		{"case when f then 'a' else s end is null", true, nil, false},
		{"case when case when f then g else f end then f else g end", false, true, true},
		{"case when case when f then g else f end then f else g end", true, false, false},
	} {
		if got := fresh(t, pairs(c.when)).Hidden(0, pairOf(nil, nil, nil, nil, c.f, c.g)); got != c.hides {
			t.Errorf("%s of %v, %v: %v", c.when, c.f, c.g, got)
		}
	}
}

func TestHiddenConstants(t *testing.T) {
	for when, want := range map[string]bool{
		"true": true, "false": false, "null": false, "not true": false, "not false": true, "not null": false, "null is null": true, "null is not null": false,
		"1 = 1": true, "1 = 2": false, "1 < 2": true, "'a' < 'b'": true, "'b' < 'a'": false, "'' = ''": true, "'' < 'a'": true, "'10' < '9'": true, "10 < 9": false,
		"null = null": false, "null <> 1": false, "1 <> null": false, "(1 <> null) is null": true, "false < true": true, "true <= false": false,
		"999999999999999999 > 1": true, "'" + long + "' = '" + long + "'": true, "'" + long + "' <> 'x'": true,
		"null and false": false, "(null and false) is null": false, "null or true": true, "(null or false) is null": true,
	} {
		d := fresh(t, pairs(when))
		for _, r := range []rowOf{make(rowOf, 6), pairOf(1, 2, "a", "b", true, false), nil} {
			if got := d.Hidden(0, r); got != want {
				t.Errorf("%.40s of %s: %v", when, told(r), got)
			}
		}
	}
	for _, n := range []int{math.MinInt, -1, 0, 1, math.MaxInt} { // no text has a number below 0
		d := hiding(t, api.Expr{Kind: api.ExBin, S: "=", Kids: []api.Expr{{Kind: api.ExInt, N: n}, {Kind: api.ExCol, T: "t", S: "a"}}})
		for _, m := range []int{math.MinInt, -1, 0, 1, math.MaxInt} {
			if d.Hidden(0, row(m)) != (m == n) {
				t.Errorf("%d = %d", n, m)
			}
		}
	}
}

// hiding is a store of one table, t, of one column, a, that hides rows by a predicate put together by hand.
func hiding(t testing.TB, when api.Expr) *store.DB {
	t.Helper()
	return store.New(catalogOf(t, api.Schema{Levels: []string{"low"}, Tables: []api.Table{{
		Name: "t", Rows: "low", Cols: []api.Col{{Name: "a", Type: api.TyInt, Null: true, Level: "low"}}, Hide: "low", When: []api.Expr{when},
	}}}))
}

// Each column is found by its name, with and without the table's.
func TestHiddenColumns(t *testing.T) {
	names := []string{"a", "b", "s", "u", "f", "g"}
	for i, name := range names {
		for _, written := range []string{name, "t." + name} {
			d := fresh(t, pairs(written+" is not null"))
			for j := range names {
				r := make(rowOf, 6)
				r[j] = val(true)
				if d.Hidden(0, r) != (i == j) {
					t.Errorf("%s is column %d", written, j)
				}
			}
		}
	}
}

// A row that is too short has no value there, which is null; what stands behind the columns says nothing.
func TestHiddenOfRowsOfAnyLength(t *testing.T) {
	whole := pairOf(1, 1, "a", "a", true, true)
	for i, name := range []string{"a", "b", "s", "u", "f", "g"} {
		is, not := fresh(t, pairs(name+" is null")), fresh(t, pairs(name+" is not null"))
		for n := range 7 {
			if there := n > i; is.Hidden(0, whole[:n]) == there || not.Hidden(0, whole[:n]) != there {
				t.Errorf("%s of the first %d", name, n)
			}
		}
		longer := append(whole, make(rowOf, 100)...)
		if is.Hidden(0, longer) || !not.Hidden(0, longer) || !is.Hidden(0, nil) {
			t.Errorf("%s of more values", name)
		}
	}
	d := fresh(t, pairs("a = b"))
	if d.Hidden(0, row(1)) || d.Hidden(0, nil) || !d.Hidden(0, row(1, 1)) || !d.Hidden(0, append(whole, whole...)) {
		t.Error("a = b")
	}
}

// Values that are not right may stand in a row: Hidden answers something, the same at each call, and leaves them.
func TestHiddenOfOddValues(t *testing.T) {
	for _, when := range []string{"a = b", "a <> b", "a < b", "a <= b", "a > b", "a >= b", "f and g", "f or g", "not f", "a is null", "a is not null", "f", "case when f then a < b else g end", "s = u or f"} {
		d := fresh(t, pairs(when))
		for _, v := range allValues() {
			for _, w := range allValues() {
				r := row(v, w, v, w, v, w)
				first := d.Hidden(0, r)
				if d.Hidden(0, r) != first || d.Copy().Hidden(0, r) != first {
					t.Errorf("%s of %s: not the same again", when, told(r))
				}
				if !same(list(r), list(row(v, w, v, w, v, w))) {
					t.Errorf("%s changed a row", when)
				}
			}
		}
	}
}

// As deep as a predicate may be.
func TestHiddenDeep(t *testing.T) {
	for _, n := range []int{1, 2, api.MaxNest - 2, api.MaxNest - 1} { // a is one deeper than the last of them
		x := api.Expr{Kind: api.ExBin, S: "=", Kids: []api.Expr{{Kind: api.ExCol, S: "a"}, {Kind: api.ExInt, N: 1}}}
		for range n - 1 {
			x = api.Expr{Kind: api.ExNot, Kids: []api.Expr{x}}
		}
		d := hiding(t, x)
		odd := n%2 == 1
		if d.Hidden(0, row(1)) != odd || d.Hidden(0, row(2)) == odd || d.Hidden(0, row(nil)) {
			t.Errorf("%d deep", n)
		}
	}
}

// A predicate can't hold what is reckoned with numbers, so no sum in it is too great: there is no catalog with one.
func TestNoSumsInPredicates(t *testing.T) {
	for _, mark := range []string{"+", "-", "*", "/", "%", "||"} {
		s, _, err := syntax.Schema(pairs(strings.ReplaceAll("(a + 999999999999999999) = 1", "+", mark)))
		if err != api.OK {
			t.Fatal(err)
		}
		if c, at, err := schema.New(s); c != nil || at != 1 || err != api.ErrShape {
			t.Errorf("%s: %d %v", mark, at, err)
		}
	}
}

// A table without a predicate hides none, and each table has its own.
func TestHiddenOfTables(t *testing.T) {
	d := full(t)
	for _, c := range []struct {
		table int
		row   rowOf
		want  bool
	}{
		{keyed, row(1, true, nil), true}, {keyed, row(1, false, nil), false}, {keyed, row(1, nil, nil), false}, {keyed, row(9, true, "b"), true},
		{some, row(1, "x", nil, 1), true}, {some, row(1, "y", true, 1), false}, {some, row(1, nil, nil, 1), false},
		{whole, row(nil, true), true}, {whole, row(1, true), false}, {free, row(-1), true}, {free, row(0), false}, {free, row(nil), false},
		{open, row("x"), false}, {open, row("a"), false}, {open, row(true), false}, {open, row(nil), false}, {open, nil, false},
	} {
		if got := d.Hidden(c.table, c.row); got != c.want {
			t.Errorf("%s of %d: %v", told(c.row), c.table, got)
		}
		for _, n := range noTables(beyond) {
			if d.Hidden(n, c.row) {
				t.Errorf("hidden in table %d", n)
			}
		}
		if (*store.DB)(nil).Hidden(c.table, c.row) || new(store.DB).Hidden(c.table, c.row) {
			t.Error("hidden in none")
		}
	}
}
