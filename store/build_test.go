package store_test

import (
	"cmp"
	"reflect"
	"slices"
	"strconv"
	"strings"
	"testing"

	"cordon/api"
	"cordon/schema"
	"cordon/store"
	"cordon/syntax"
	"cordon/value"
)

type rowOf = []api.Value

// val is a value, written as Go writes it; nil is null.
func val(x any) api.Value {
	switch y := x.(type) {
	case bool:
		return value.Bool(y)
	case int:
		return value.Int(y)
	case string:
		return value.Text(y)
	case api.Value:
		return y
	}
	return value.Null()
}

func row(l ...any) rowOf {
	var out rowOf
	for _, x := range l {
		out = append(out, val(x))
	}
	return out
}

func list(l ...rowOf) []rowOf { return l }

// ones are rows of one value each.
func ones(l ...any) []rowOf {
	var out []rowOf
	for _, x := range l {
		out = append(out, row(x))
	}
	return out
}

// upTo are rows of one number each, from one to another one.
func upTo(from, to int) []rowOf {
	var out []rowOf
	for n := from; n <= to; n++ {
		out = append(out, row(n))
	}
	return out
}

const levels = "levels low, high; order low < high; "

// flagged is a table of which f tells what is hidden, so that one key can be hidden and not.
const flagged = levels + "table t rows low (k int low, f bool null low, s text null high) key (k) hide high when f; "

// several are tables with a key of one column, of some, of all columns, and with none; the last one hides nothing.
const several = flagged +
	"table u rows low (a int low, b text null low, c bool null low, d int high) key (c, a) hide high when b = 'x'; " +
	"table v rows low (a int null low, b bool null low) key (b, a) hide high when a is null; " +
	"table w rows low (a int null low) hide high when a < 0; " +
	"table o rows low (a text low) key (a); "

// The places of these tables.
const (
	keyed = iota
	some
	whole
	free
	open
	beyond
)

// example is that of the chapter.
const example = levels + "table t rows low (a int low) key (a) hide high when a = 1; "

func catalog(t testing.TB, text string) *schema.Catalog {
	t.Helper()
	s, at, err := syntax.Schema(text)
	if err != api.OK {
		t.Fatalf("%q: %d %v", text, at, err)
	}
	return catalogOf(t, s)
}

func catalogOf(t testing.TB, s api.Schema) *schema.Catalog {
	t.Helper()
	c, at, err := schema.New(s)
	if err != api.OK {
		t.Fatalf("%+v: %d %v", s, at, err)
	}
	return c
}

func fresh(t testing.TB, text string) *store.DB {
	t.Helper()
	d := store.New(catalog(t, text))
	if d == nil {
		t.Fatalf("there is none of %q", text)
	}
	return d
}

// loaded is one with these rows.
func loaded(t testing.TB, text string, tables ...[]rowOf) *store.DB {
	t.Helper()
	d, at, err := store.Load(catalog(t, text), tables)
	if d == nil || at != 0 || err != api.OK {
		t.Fatalf("%v %d %v", d, at, err)
	}
	return d
}

// full is one of several, with rows in all tables, some of them hidden.
func full(t testing.TB) *store.DB {
	t.Helper()
	return loaded(t, several,
		list(row(1, true, "a"), row(2, nil, nil), row(1, false, "b"), row(3, true, "a")),
		list(row(1, "x", nil, 5), row(1, nil, nil, 6), row(1, "y", true, 7), row(2, "x", nil, 5)),
		list(row(nil, nil), row(1, nil), row(nil, true), row(1, false)),
		ones(3, -1, nil, -1, 3),
		ones("b", "", "a"),
	)
}

// tables is how many there are.
func tables(d *store.DB) int { return len(d.Catalog().Tables()) }

func same(a, b []rowOf) bool { return slices.EqualFunc(a, b, slices.Equal) }

func copied(l []rowOf) []rowOf {
	var out []rowOf
	for _, r := range l {
		out = append(out, append(rowOf{}, r...))
	}
	return out
}

// told is a list of rows for a fault's text, long texts cut.
func told(l ...rowOf) string {
	var out []string
	for _, r := range l {
		var in []string
		for _, v := range r {
			s := v.S
			if len(s) > 8 {
				s = s[:8] + ".."
			}
			in = append(in, strconv.Itoa(v.Type)+":"+strconv.Itoa(v.N)+":"+strconv.Quote(s))
		}
		out = append(out, "("+strings.Join(in, " ")+")")
	}
	return "[" + strings.Join(out, " ") + "]"
}

func checkRows(t testing.TB, what string, got, want []rowOf) {
	t.Helper()
	if !same(got, want) {
		t.Errorf("%s: %s, not %s", what, told(got...), told(want...))
	}
}

func checkErr(t testing.TB, what string, got, want api.Errno) {
	t.Helper()
	if got != want {
		t.Errorf("%s: %v, not %v", what, got, want)
	}
}

// tells is all rows of all tables, and those that are visible.
func tells(d *store.DB) [][]rowOf {
	var out [][]rowOf
	for i := range tables(d) {
		out = append(out, d.Rows(i), d.Visible(i))
	}
	return out
}

// keeps does something to a store, and looks whether all rows are as they were.
func keeps(t testing.TB, what string, d *store.DB, do func()) {
	t.Helper()
	before, was := tells(d), d.Copy()
	do()
	if !slices.EqualFunc(tells(d), before, same) || !d.Same(was) {
		t.Errorf("%s: rows are not as they were", what)
	}
}

// refuses looks whether something is refused, and changes nothing.
func refuses(t testing.TB, what string, d *store.DB, want api.Errno, do func() api.Errno) {
	t.Helper()
	keeps(t, what, d, func() { checkErr(t, what, do(), want) })
}

// spoil changes all values of rows where they stand, and what room there is behind them.
func spoil(l []rowOf) {
	for i, r := range l[:cap(l)] {
		for j := range r[:cap(r)] {
			r[:cap(r)][j] = api.Value{Type: 9, N: 9, S: "spoilt"}
		}
		l[:cap(l)][i] = nil
	}
}

// piece is the memory of a list, with the room behind it.
type piece struct{ from, to uintptr }

// pieces are those of all lists in a value.
func pieces(v reflect.Value) []piece {
	if v.Kind() != reflect.Slice {
		return nil
	}
	var out []piece
	if v.Cap() > 0 {
		out = append(out, piece{v.Pointer(), v.Pointer() + uintptr(v.Cap())*v.Type().Elem().Size()})
	}
	for i := range v.Len() {
		out = append(out, pieces(v.Index(i))...)
	}
	return out
}

// ownMemory tells whether no two lists in all that is handed to it share memory.
func ownMemory(all ...any) bool {
	var of []piece
	for _, x := range all {
		of = append(of, pieces(reflect.ValueOf(x))...)
	}
	slices.SortFunc(of, func(a, b piece) int { return cmp.Compare(a.from, b.from) })
	for i := range of {
		if i > 0 && of[i-1].to > of[i].from {
			return false
		}
	}
	return true
}
