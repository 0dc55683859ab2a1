package rows_test

import (
	"math"
	"slices"
	"testing"

	"cordon/rows"
)

// P11.2

func TestSort(t *testing.T) {
	check(t, "the example", rows.Sort(ones(2, 1, nil), ones(2, 1, nil), nil), ones(nil, 1, 2))
	l := ones("p", "q", "r", "s")
	for _, c := range []struct {
		name string
		keys []rows.Row
		desc []bool
		want []rows.Row
	}{
		{"without keys", nil, nil, l},
		{"without keys, turned", nil, []bool{true}, l},
		{"empty keys", list(row(), nil, row(), row()), []bool{true}, l},
		{"all the same", ones(1, 1, 1, 1), nil, l},
		{"all the same, turned", ones(1, 1, 1, 1), []bool{true}, l},
		{"as many", ones(3, 1, 4, 2), nil, ones("q", "s", "p", "r")},
		{"turned", ones(3, 1, 4, 2), []bool{true}, ones("r", "p", "s", "q")},
		{"not turned", ones(3, 1, 4, 2), []bool{false, true}, ones("q", "s", "p", "r")},
		{"fewer: those without stand ahead", ones(3, 1), nil, ones("r", "s", "q", "p")},
		{"fewer, turned: behind all", ones(3, 1), []bool{true}, ones("p", "q", "r", "s")},
		{"fewer, a null stands behind those without", ones(3, nil), nil, ones("r", "s", "q", "p")},
		{"more", ones(2, 1, 1, 0, -7, "x"), nil, ones("s", "q", "r", "p")},
		{"some the same", ones(2, 1, 2, 1), nil, ones("q", "s", "p", "r")},
		{"some the same, turned", ones(1, 2, 1, 2), []bool{true}, ones("q", "s", "p", "r")},
		{"the second", list(row(1, "b"), row(0, "z"), row(1, "a"), row(0, "y")), nil, ones("s", "q", "r", "p")},
		{"the first turned", list(row(1, "b"), row(0, "z"), row(1, "a"), row(0, "y")), []bool{true}, ones("r", "p", "s", "q")},
		{"the second turned", list(row(1, "b"), row(0, "z"), row(1, "a"), row(0, "y")), []bool{false, true}, ones("q", "s", "p", "r")},
		{"both turned", list(row(1, "b"), row(0, "z"), row(1, "a"), row(0, "y")), []bool{true, true, true}, ones("p", "r", "q", "s")},
		{"unlike lengths", list(row(1, nil), row(1), row(), row(1, nil, nil)), nil, ones("r", "q", "p", "s")},
		{"unlike lengths, the second turned", list(row(1), row(1, 5), row(), row(1, nil, 0)), []bool{false, true}, ones("r", "q", "s", "p")},
		{"unlike lengths, the first turned", list(row(), row(1, 5), row(2), row(1)), []bool{true}, ones("r", "s", "q", "p")},
		{"unlike lengths, the third turned", list(row(1, 2), row(1, 2, 3), row(1), row(1, 2, 4)), []bool{false, false, true}, ones("r", "s", "q", "p")},
		{"types", ones("", math.MinInt64, true, nil), nil, ones("s", "r", "q", "p")},
		{"types, turned", ones(nil, true, math.MinInt64, ""), []bool{true}, ones("s", "r", "q", "p")},
		{"numbers", ones(math.MaxInt64, 0, math.MinInt64, -1), nil, ones("r", "s", "q", "p")},
		{"bools", ones(true, false, true, false), nil, ones("q", "s", "p", "r")},
		{"texts", ones("b", "a\x00", "\xff", "a"), nil, ones("s", "q", "p", "r")},
		{"long texts", list(wide2, wide, row(long), row(long[1:])), nil, ones("s", "r", "q", "p")},
	} {
		check(t, c.name, rows.Sort(l, c.keys, c.desc), c.want)
	}
}

func TestSortOfOthers(t *testing.T) {
	check(t, "none", rows.Sort(nil, ones(1, 2), []bool{true}), nil)
	check(t, "one", rows.Sort(list(row(1, 2)), nil, nil), list(row(1, 2)))
	check(t, "the same row, by unlike keys", rows.Sort(ones(1, 2, 1), ones(3, 2, 1), nil), ones(1, 2, 1))
	check(t, "rows of unlike lengths", rows.Sort(list(row(), row(1), wide, row(nil, 2)), ones(4, 3, 2, 1), nil), list(row(nil, 2), wide, row(1), row()))
	check(t, "rows do not count, keys do", rows.Sort(ones(1, 2, 3, 1), ones(9, 9, 8, 9), nil), ones(3, 1, 2, 1))
}

// Many rows with few keys: what has the same key stays as it stood, also where a sort has to part its work.
func TestSortStays(t *testing.T) {
	var l, keys, want []rows.Row
	for i := range 1000 {
		l, keys = append(l, row(i)), append(keys, row(i*7%3))
	}
	for k := range 3 {
		for i := range 1000 {
			if i*7%3 == k {
				want = append(want, row(i))
			}
		}
	}
	check(t, "up", rows.Sort(l, keys, nil), want)
	var turned []rows.Row
	for k := 2; k >= 0; k-- {
		for _, r := range want {
			if r[0].N*7%3 == k {
				turned = append(turned, r)
			}
		}
	}
	check(t, "down", rows.Sort(l, keys, []bool{true}), turned)
}

// Of all pairs of keys the second way: a value that is not there is told by a smaller number than that of all types.
func TestSortOfAllPairs(t *testing.T) {
	keys := append(unlike(), odd()...)
	for _, a := range keys {
		for _, b := range keys {
			for _, desc := range [][]bool{nil, {true}, {false, true}, {true, true, true}} {
				want := ones("a", "b")
				if compared(a, b, desc) > 0 {
					want = ones("b", "a")
				}
				if got := rows.Sort(ones("a", "b"), list(a, b), desc); !same(got, want) {
					t.Errorf("%s by %s, %v", told(got), told(list(a, b)), desc)
				}
			}
		}
	}
}

func TestSortOfAll(t *testing.T) {
	keys := thrice(unlike())
	for _, desc := range [][]bool{nil, {true}, {false, true}, {true, true, true}} {
		want := slices.Clone(keys)
		for i := range want { // each goes ahead of those that stand behind it
			for j := i; j > 0 && compared(want[j-1], want[j], desc) > 0; j-- {
				want[j-1], want[j] = want[j], want[j-1]
			}
		}
		check(t, "all", rows.Sort(keys, keys, desc), want)
	}
}
