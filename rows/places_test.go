package rows_test

import (
	"math"
	"reflect"
	"testing"

	"cordon/api"
	"cordon/rows"
)

// P11.3

func TestGroups(t *testing.T) {
	for _, c := range []struct {
		name string
		keys []rows.Row
		want [][]int
	}{
		{"one", ones(1), [][]int{{0}}},
		{"all the same", ones("a", "a", "a"), [][]int{{0, 1, 2}}},
		{"all unlike", ones(3, 2, 1), [][]int{{0}, {1}, {2}}},
		{"in the order in which they came", ones(2, 1, 2, 3, 1, 2), [][]int{{0, 2, 5}, {1, 4}, {3}}},
		{"without values", list(nil, row(), row(nil), rows.Row{}), [][]int{{0, 1, 3}, {2}}},
		{"nulls", list(row(nil, 1), row(1, nil), row(nil, 1), row(nil, nil)), [][]int{{0, 2}, {1}, {3}}},
		{"unlike types", ones(1, true, 1, true, "1"), [][]int{{0, 2}, {1, 3}, {4}}},
		{"the last alone", list(wide, wide2, wide), [][]int{{0, 2}, {1}}},
	} {
		if got := rows.Groups(c.keys); !reflect.DeepEqual(got, c.want) {
			t.Errorf("%s: %v", c.name, got)
		}
	}
	for _, none := range [][]rows.Row{nil, {}} {
		if got := rows.Groups(none); len(got) != 0 {
			t.Errorf("of none: %v", got)
		}
	}
	all := unlike()
	got := rows.Groups(thrice(all))
	for i := range all {
		if want := []int{i, 2*len(all) - 1 - i, 2*len(all) + i}; i >= len(got) || !reflect.DeepEqual(got[i], want) {
			t.Fatalf("group %d of %v", i, got)
		}
	}
	if len(got) != len(all) {
		t.Errorf("%d groups of %d", len(got), len(all))
	}
}

// P11.4

func TestMatch(t *testing.T) {
	a := list(row(1, "x"), row(nil, "y"), row(2, "x"), row(1), row(), row(true, nil))
	b := list(row("x", 2), row("x", 1), row("y", 1, 0), row("z", nil), row("x"), row(1, true))
	for _, c := range []struct {
		name string
		i, j int
		want [][2]int
	}{
		{"numbers, and a bool", 0, 1, [][2]int{{0, 1}, {0, 2}, {2, 0}, {3, 1}, {3, 2}, {5, 5}}},
		{"texts", 1, 0, [][2]int{{0, 0}, {0, 1}, {0, 4}, {1, 2}, {2, 0}, {2, 1}, {2, 4}}},
		{"unlike types", 0, 0, [][2]int{{0, 5}, {3, 5}}},
		{"a place that one row has", 0, 2, nil},
		{"texts and numbers", 1, 1, nil},
		{"the first below 0", -1, 0, nil},
		{"the second below 0", 0, -1, nil},
		{"both below 0", -1, -1, nil},
		{"far below 0", math.MinInt64, math.MinInt64, nil},
		{"the first beyond all", 2, 0, nil},
		{"the second beyond all", 0, 3, nil},
		{"far beyond all", math.MaxInt64, math.MaxInt64, nil},
	} {
		if got := rows.Match(a, b, c.i, c.j); !samePairs(got, c.want) {
			t.Errorf("%s: %v", c.name, got)
		}
	}
	for _, none := range [][]rows.Row{nil, {}} {
		for _, got := range [][][2]int{rows.Match(none, b, 0, 0), rows.Match(a, none, 0, 0), rows.Match(none, none, 0, 0)} {
			if len(got) != 0 {
				t.Errorf("with none: %v", got)
			}
		}
	}
}

func TestMatchOfAll(t *testing.T) {
	l := append(unlike(), odd()...)
	for _, c := range [][2]int{{0, 0}, {0, 1}, {1, 0}, {2, 2}, {api.MaxCols - 1, api.MaxCols - 1}, {api.MaxCols, api.MaxCols}} {
		got, want := rows.Match(l, thrice(l), c[0], c[1]), matched(l, thrice(l), c[0], c[1])
		if !samePairs(got, want) {
			t.Errorf("at %v: %d pairs, not %d", c, len(got), len(want))
		}
		if len(want) == 0 {
			t.Errorf("at %v: nothing is held against anything", c)
		}
	}
}

func TestManyPairs(t *testing.T) {
	var l []rows.Row
	for range 300 {
		l = append(l, row(0, 7))
	}
	got := rows.Match(l, l, 1, 1)
	if len(got) != 300*300 {
		t.Fatalf("%d pairs", len(got))
	}
	for n, p := range got {
		if p != [2]int{n / 300, n % 300} {
			t.Fatalf("pair %d: %v", n, p)
		}
	}
}
