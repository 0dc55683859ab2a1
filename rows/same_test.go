package rows_test

import (
	"cmp"
	"reflect"
	"slices"
	"strconv"
	"strings"
	"testing"

	"cordon/api"
	"cordon/rows"
	"cordon/value"
)

// val is a value, written as Go writes it; nil is null.
func val(x any) api.Value {
	switch y := x.(type) {
	case bool:
		return value.Bool(y)
	case int:
		return value.Int(y)
	case string:
		return value.Text(y)
	case api.Value:
		return y
	}
	return value.Null()
}

func row(l ...any) rows.Row {
	var out rows.Row
	for _, x := range l {
		out = append(out, val(x))
	}
	return out
}

// ones are rows of one value each.
func ones(l ...any) []rows.Row {
	var out []rows.Row
	for _, x := range l {
		out = append(out, row(x))
	}
	return out
}

func list(l ...rows.Row) []rows.Row { return l }

func repeated(n int, x any) rows.Row {
	var out rows.Row
	for range n {
		out = append(out, val(x))
	}
	return out
}

// told is a row for a fault's text, long texts cut.
func told(l []rows.Row) string {
	var out []string
	for _, r := range l {
		var in []string
		for _, v := range r {
			s := v.S
			if len(s) > 8 {
				s = s[:8] + ".."
			}
			in = append(in, strconv.Itoa(v.Type)+":"+strconv.Itoa(v.N)+":"+strconv.Quote(s))
		}
		out = append(out, "("+strings.Join(in, " ")+")")
	}
	return "[" + strings.Join(out, " ") + "]"
}

// same tells whether two lists of rows are, lists that are nil and empty taken as the same.
func same(a, b []rows.Row) bool { return slices.EqualFunc(a, b, slices.Equal) }

func copied(l []rows.Row) []rows.Row {
	out := make([]rows.Row, len(l))
	for i, r := range l {
		out[i] = append(rows.Row{}, r...)
	}
	return out
}

func check(t *testing.T, name string, got, want []rows.Row) {
	t.Helper()
	if !same(got, want) {
		t.Errorf("%s: %s, not %s", name, told(got), told(want))
	}
}

// piece is the memory of a list, with the room behind it.
type piece struct{ from, to uintptr }

// pieces are those of all lists in a value.
func pieces(v reflect.Value) []piece {
	var out []piece
	if v.Kind() != reflect.Slice {
		return nil
	}
	if v.Cap() > 0 {
		out = append(out, piece{v.Pointer(), v.Pointer() + uintptr(v.Cap())*v.Type().Elem().Size()})
	}
	for i := range v.Len() {
		out = append(out, pieces(v.Index(i))...)
	}
	return out
}

// ownMemory tells whether no list in an answer shares memory with another one in it, or with one in what was handed in.
func ownMemory(answer any, handed ...any) bool {
	own := pieces(reflect.ValueOf(answer))
	slices.SortFunc(own, func(a, b piece) int { return cmp.Compare(a.from, b.from) })
	for i := range own {
		if i > 0 && own[i-1].to > own[i].from {
			return false
		}
	}
	for _, x := range handed {
		for _, p := range pieces(reflect.ValueOf(x)) {
			at, _ := slices.BinarySearchFunc(own, p, func(a, b piece) int { return cmp.Compare(a.to, b.from+1) })
			if at < len(own) && own[at].from < p.to {
				return false
			}
		}
	}
	return true
}
