package change_test

import (
	"fmt"
	"math"
	"slices"
	"testing"

	"cordon/api"
	"cordon/change"
	"cordon/syntax"
)

// P14.5, of tables that a catalog has.
func TestFixed(t *testing.T) {
	const cols = "(a int low, b int null low, c bool null low, d text low, e text null high)"
	for _, c := range []struct {
		text string
		want []int
	}{
		{"", nil},
		{"key (a)", one(0)}, {"key (d)", one(3)}, {"key (d, a)", one(0, 3)}, {"key (c, a, b)", one(0, 1, 2)}, {"key (d, c, b, a)", one(0, 1, 2, 3)},
		{"hide high when c", one(2)}, {"hide high when t.c", one(2)}, {"hide high when b = a", one(0, 1)}, {"hide high when d = 'a' or d = 'b' or t.d = 'c'", one(3)}, {"hide high when true", nil}, {"hide high when null", nil}, {"hide high when 'd' = 'a'", nil},
		{"hide high when not (d is null)", one(3)}, {"hide high when case when c then b = 1 else d < 'x' end", one(1, 2, 3)}, {"hide high when case when true then case when c is not null then true else c end else false end", one(2)},
		{"key (a) hide high when a = 1", one(0)}, {"key (d, a) hide high when c", one(0, 2, 3)}, {"key (b, a) hide high when d = 'x' and b > a", one(0, 1, 3)}, {"key (c) hide high when false", one(2)}, {"key (a, b, c, d) hide high when c or b = a or d = 'b'", one(0, 1, 2, 3)},
	} {
		r := catalogOf("levels low, high; order low < high; table t rows low " + cols + c.text + ";").Tables()[0]
		check(t, c.text, fmt.Sprint(change.Fixed(r)), fmt.Sprint(c.want))
	}
	for i, want := range [][]int{{0}, {0, 1}, nil, {1}, {0}, {0}, nil} {
		check(t, i, fmt.Sprint(change.Fixed(ourCatalog().Tables()[i])), fmt.Sprint(want))
	}
}

// Of relations that no catalog has: the same, and nothing that is no column.
func TestFixedOdd(t *testing.T) {
	cols := func(names ...string) []api.Field {
		return numbered(len(names), func(i int) api.Field { return api.Field{Name: names[i]} })
	}
	x := func(text string) []api.Expr {
		x, _, err := syntax.Expr(text)
		if err != api.OK {
			t.Fatal(text)
		}
		return one(x)
	}
	deep := x("b")[0]
	for range 1<<16 - 2 {
		deep = api.Expr{Kind: api.ExNot, Kids: one(deep)}
	}
	for _, c := range []struct {
		r    api.Relation
		want []int
	}{
		{api.Relation{}, nil}, {api.Relation{Key: one(0), When: x("a")}, nil},
		{api.Relation{Cols: cols("a", "b", "c"), Key: one(2, 0, 2, 2, 0)}, one(0, 2)},
		{api.Relation{Cols: cols("a", "b"), Key: one(-1, 2, 1, math.MaxInt, math.MinInt)}, one(1)},
		{api.Relation{Cols: cols("a", "b"), When: x("nosuch = 1 or b = 2")}, one(1)},
		{api.Relation{Name: "t", Cols: cols("a", "b"), When: x("u.a = t.b")}, one(1)},
		{api.Relation{Cols: cols("a", "b", "c"), When: x("a + (-c) = 3")}, one(0, 2)},
		{api.Relation{Cols: cols("a", "b", "c"), When: x("b in (select a as x from t where c = 1)")}, one(1)},
		{api.Relation{Cols: cols("a", "b", "c"), When: x("max(c) = :a")}, one(2)},
		{api.Relation{Cols: cols("a", "b", "a"), When: x("a")}, one(0, 2)},
		{api.Relation{Cols: cols("", "b"), When: one(api.Expr{Kind: api.ExCol})}, one(0)},
		{api.Relation{Cols: cols("", "b"), When: one(api.Expr{Kind: 99})}, nil},
		{api.Relation{Cols: cols("a", "b"), When: []api.Expr{}, Key: []int{}, Hide: 1}, nil},
		{api.Relation{Cols: cols("a", "b"), When: x("b"), Key: one(0, 1), Hide: -1}, one(0, 1)},
		{api.Relation{Cols: cols("a", "b"), When: one(deep), Hide: -1}, one(1)},
	} {
		check(t, c.r.Cols, fmt.Sprint(change.Fixed(c.r)), fmt.Sprint(c.want))
	}
}

// P14.5, of tables made in a loop: rising, each once, and just those that the second way tells, which asks each column for itself; and Update refuses just these.
func TestFixedMade(t *testing.T) {
	sizes := map[int]int{}
	for seed := range 4000 {
		m := makerOf(t, seed)
		for i, r := range m.tables {
			got := change.Fixed(r)
			sizes[len(got)]++
			var want []int
			for col := range r.Cols {
				if isFixed(r, col) {
					want = append(want, col)
				}
				c := call{kind: api.StUpdate, table: i, cols: one(col), nodes: one(division()), where: one(constant(false))}
				if _, err := c.do(m.db()); (err == api.ErrShape) != slices.Contains(got, col) || err != api.OK && err != api.ErrShape {
					t.Fatalf("%d, column %d: %v", seed, col, err)
				}
			}
			if !slices.Equal(got, want) {
				t.Fatalf("%d: %v, not %v", seed, got, want)
			}
		}
	}
	for n := range 4 {
		if sizes[n] < 100 {
			t.Errorf("%d fixed columns: %d times", n, sizes[n])
		}
	}
}
