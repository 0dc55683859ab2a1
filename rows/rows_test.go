package rows_test

import (
	"math"
	"slices"
	"strings"
	"testing"

	"cordon/api"
	"cordon/rows"
)

var (
	long  = strings.Repeat("x", api.MaxText)
	wide  = repeated(api.MaxCols, long)
	wide2 = append(repeated(api.MaxCols-1, long), val(long[1:]+"y"))
)

// unlike are rows no two of which are the same, though much of them is.
func unlike() []rows.Row {
	return list(
		row(), row(nil), row(nil, nil), row(nil, nil, nil), row(nil, 1), row(1, nil),
		row(false), row(true), row(0), row(1), row(-1), row(2), row(math.MinInt64), row(math.MaxInt64), row(math.MaxInt64-1),
		row(""), row("", ""), row("\x00"), row("\x00\x00"), row("\x00", ""), row("", "\x00"), row("\x00\xff"), row("\xff"), row("\xff\x00"),
		row("0"), row("1"), row("true"), row("null"), row("a"), row("ab"), row("a", "b"), row("ab", ""), row("", "ab"), row("a", "", "b"),
		row("a", nil), row("a", nil, nil), row(1, "a"), row("a", 1), row(1, 1), row(1, true), row(true, 1), row(1, 2, 3), row(1, 2, 4), row(1, 2),
		row("é"), row("e\u0301"), row("\xc3"), row("\x05"), row("\x04\x80\x00\x00\x00\x00\x00\x00\x01"),
		row(long), row(long[1:]), row(long[1:]+"y"), row("y"+long[1:]), row(strings.Repeat("\x00", api.MaxText)), row(strings.Repeat("\x00", api.MaxText-1)),
		repeated(api.MaxCols, nil), repeated(api.MaxCols-1, nil), repeated(api.MaxCols, 0), repeated(api.MaxCols, false), repeated(api.MaxCols, ""),
		append(repeated(api.MaxCols-1, 0), val(1)), append(repeated(api.MaxCols-1, nil), val(false)), wide, wide2,
	)
}

// odd are rows that are not right, or too wide: no two are the same, and none is one of unlike.
func odd() []rows.Row {
	var out []rows.Row
	for _, v := range oddValues() {
		out = append(out, rows.Row{v}, row(v, v), row(1, v), row(v, 1), row(nil, v))
	}
	out = append(out, repeated(api.MaxCols+1, nil), repeated(api.MaxCols+1, 0), repeated(api.MaxCols+1, ""), repeated(api.MaxCols+2, ""), repeated(2*api.MaxCols, "a"))
	out = append(out, append(repeated(api.MaxCols, ""), val("a")), append(repeated(api.MaxCols, ""), val("b")), append(repeated(api.MaxCols, "a"), val("")))
	return append(out, repeated(100, long+long))
}

func oddValues() []api.Value {
	return []api.Value{
		{N: 1}, {N: -1}, {N: 11}, {S: "x"}, {S: "1"}, {S: "\x00"}, {N: 1, S: "1"}, {N: 1, S: " 1"}, {N: math.MinInt64},
		{Type: api.TyBool, N: 2}, {Type: api.TyBool, N: -1}, {Type: api.TyBool, N: 256}, {Type: api.TyBool, S: "x"}, {Type: api.TyBool, N: 1, S: "x"},
		{Type: api.TyInt, S: "x"}, {Type: api.TyInt, N: 1, S: "x"}, {Type: api.TyInt, N: math.MaxInt64, S: "xy"}, {Type: api.TyInt, N: math.MaxInt64, S: "x"},
		{Type: api.TyText, N: 1}, {Type: api.TyText, N: 1, S: "x"}, {Type: api.TyText, N: -1, S: "x"}, {Type: api.TyText, S: long + "x"}, {Type: api.TyText, S: long + "y"},
		{Type: 4}, {Type: 4, N: 1}, {Type: 4, N: 100}, {Type: 401}, {Type: 4, S: "4 0 0 "}, {Type: 5, S: "x"}, {Type: -1}, {Type: -1, N: 1, S: "x"}, {Type: math.MinInt64}, {Type: math.MaxInt64, N: math.MinInt64, S: long},
	}
}

// thrice is a list with its rows turned round and once more behind it.
func thrice(l []rows.Row) []rows.Row {
	back := slices.Clone(l)
	slices.Reverse(back)
	return slices.Concat(l, back, l)
}

// P11.1

func TestDistinct(t *testing.T) {
	check(t, "the example", rows.Distinct(ones(1, 2, 1)), ones(1, 2))
	check(t, "none", rows.Distinct(nil), nil)
	check(t, "none, empty", rows.Distinct([]rows.Row{}), nil)
	check(t, "without values", rows.Distinct(list(row(), nil, rows.Row{})), list(row()))
	check(t, "one many times", rows.Distinct(ones("a", "a", "a", "a")), ones("a"))
	check(t, "where it stands first", rows.Distinct(ones(3, 1, 3, 2, 1, 4, 2)), ones(3, 1, 2, 4))
	check(t, "nulls are the same", rows.Distinct(list(row(nil, 1), row(nil, 1), row(nil), row(nil))), list(row(nil, 1), row(nil)))
	check(t, "a beginning", rows.Distinct(list(row(1, 2), row(1), row(1, 2, 3), row(), row(1))), list(row(1, 2), row(1), row(1, 2, 3), row()))
	check(t, "the last alone", rows.Distinct(list(wide, wide2, wide2, wide)), list(wide, wide2))
	check(t, "unlike types", rows.Distinct(ones(0, false, nil, "", 1, true, "1", false, 0)), ones(0, false, nil, "", 1, true, "1"))
	check(t, "all that are unlike", rows.Distinct(thrice(unlike())), unlike())
	for _, r := range unlike() {
		check(t, "twice", rows.Distinct(list(r, copied(list(r))[0])), list(r))
	}
}

func TestUnion(t *testing.T) {
	for _, c := range []struct {
		name    string
		a, b, o []rows.Row
	}{
		{"none", nil, []rows.Row{}, nil},
		{"the first empty", nil, ones(2, 1, 2), ones(2, 1)},
		{"the second empty", ones(2, 1, 2), nil, ones(2, 1)},
		{"the same", ones(2, 1, 1), ones(2, 1, 1), ones(2, 1)},
		{"some in common", ones(3, 1, 3), ones(4, 1, 2, 4, 3), ones(3, 1, 4, 2)},
		{"all in common", ones(1, 2, 3), ones(3, 2, 3), ones(1, 2, 3)},
		{"none in common", ones("b", "b"), ones("a", "c", "a"), ones("b", "a", "c")},
		{"nulls and no values", list(row(nil), row()), list(row(), row(nil), row(nil, nil)), list(row(nil), row(), row(nil, nil))},
		{"all that are unlike", unlike(), thrice(unlike()), unlike()},
	} {
		check(t, c.name, rows.Union(c.a, c.b), c.o)
	}
}

func TestExceptAndIntersect(t *testing.T) {
	all := unlike()
	for _, c := range []struct {
		name               string
		a, b, less, common []rows.Row
	}{
		{"none", nil, []rows.Row{}, nil, nil},
		{"the first empty", nil, ones(2, 1, 2), nil, nil},
		{"the second empty", ones(2, 1, 2), nil, ones(2, 1), nil},
		{"the same", ones(2, 1, 1), ones(2, 1, 1), nil, ones(2, 1)},
		{"some in common", ones(3, 1, 3, 5, 4, 5), ones(4, 1, 2, 4, 1), ones(3, 5), ones(1, 4)},
		{"all in common, in another order", ones(1, 2, 3, 1), ones(3, 2, 2, 1), nil, ones(1, 2, 3)},
		{"none in common", ones("b", "b"), ones("a", "c", "a"), ones("b"), nil},
		{"a beginning is not the row", list(row(1), row(1, 2)), list(row(1, 2, 3), row()), list(row(1), row(1, 2)), nil},
		{"unlike types", ones(0, 1, ""), ones(false, true, nil), ones(0, 1, ""), nil},
		{"nulls and no values", list(row(nil), row(), row(nil)), list(row(), row(nil), row(nil, nil)), nil, list(row(nil), row())},
		{"all that are unlike", thrice(all), all[:30], all[30:], all[:30]},
	} {
		check(t, c.name+", except", rows.Except(c.a, c.b), c.less)
		check(t, c.name+", intersect", rows.Intersect(c.a, c.b), c.common)
	}
	for i, r := range all {
		for j, other := range all {
			if got := len(rows.Intersect(list(r), list(other))); (got == 1) != (i == j) {
				t.Errorf("%s and %s have %d in common", told(list(r)), told(list(other)), got)
			}
		}
	}
}
