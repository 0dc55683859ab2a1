package store_test

import (
	"math"
	"slices"
	"strings"
	"testing"

	"cordon/api"
	"cordon/store"
)

var long = strings.Repeat("x", api.MaxText)

// odd are values that are not right, those whose text is too long alone last.
func odd() []api.Value {
	return []api.Value{
		{N: 1}, {N: -1}, {S: "x"}, {N: 1, S: "x"},
		{Type: api.TyBool, N: 2}, {Type: api.TyBool, N: -1}, {Type: api.TyBool, N: 1, S: "x"},
		{Type: api.TyInt, S: "x"}, {Type: api.TyInt, N: 1, S: "x"}, {Type: api.TyInt, S: long + "x"},
		{Type: api.TyText, N: 1}, {Type: api.TyText, N: -1, S: "x"}, {Type: api.TyText, N: 1, S: long + "x"},
		{Type: 4}, {Type: -1}, {Type: math.MinInt}, {Type: math.MaxInt, S: "x"},
		val(long + "x"), val(long + long),
	}
}

// right are values that are right, of all types.
func right() []api.Value {
	return row(nil, false, true, 0, 1, -1, 2, math.MinInt, math.MaxInt, "", "a", "ab", "x", "\x00", "\xff", "0", "null", long)
}

// wantFit is what Fits says of a value in a column, reckoned anew.
func wantFit(v api.Value, kind int, null bool) api.Errno {
	switch {
	case v.Type == api.TyText && v.N == 0 && len(v.S) > api.MaxText:
		return api.ErrMany
	case slices.Contains(odd(), v):
		return api.ErrArg
	case v.Type == kind || v.Type == api.TyNull && null:
		return api.OK
	case v.Type == api.TyNull:
		return api.ErrNull
	}
	return api.ErrType
}

func allValues() []api.Value { return append(right(), odd()...) }

// P12.1

// columns is a table with a column of each type, with null and without.
const columns = levels + "table t rows low (i int low, b bool high, s text low, ni int null low, nb bool null low, ns text null high) key (i);"

func sound() rowOf { return row(1, true, "a", 2, false, "b") }

func columnsOf(d *store.DB) []api.Field { return d.Catalog().Tables()[0].Cols }

func TestFits(t *testing.T) {
	d := fresh(t, columns)
	for _, r := range []rowOf{sound(), row(1, true, "a", nil, nil, nil), row(math.MinInt, false, "", 0, true, ""), row(math.MaxInt, false, long, nil, true, long)} {
		checkErr(t, told(r), d.Fits(0, r), api.OK)
	}
	for place, col := range columnsOf(d) {
		for _, v := range allValues() {
			r := sound()
			r[place] = v
			checkErr(t, told(r), d.Fits(0, r), wantFit(v, col.Type, col.Null))
		}
	}
}

// Each two wrong values at once: that of the first column is told, whatever they are.
func TestFitsTellsTheFirstColumn(t *testing.T) {
	d := fresh(t, columns)
	told2 := map[[2]api.Errno]int{}
	cols := columnsOf(d)
	for i := range cols {
		for j := i + 1; j < len(cols); j++ {
			for _, v := range allValues() {
				for _, w := range allValues() {
					first, second := wantFit(v, cols[i].Type, cols[i].Null), wantFit(w, cols[j].Type, cols[j].Null)
					want := first
					if first == api.OK {
						want = second
					}
					r := sound()
					r[i], r[j] = v, w
					if got := d.Fits(0, r); got != want {
						t.Fatalf("%s: %v, not %v", told(r), got, want)
					}
					told2[[2]api.Errno{first, second}]++
				}
			}
		}
	}
	if len(told2) != 25 {
		t.Errorf("not all errors are tried with all others: %v", told2)
	}
}

// In one column: not right ahead of null and of the type.
func TestFitsInOneColumn(t *testing.T) {
	d := fresh(t, columns)
	for _, c := range []struct {
		place int
		v     api.Value
		want  api.Errno
	}{
		{0, api.Value{N: 1}, api.ErrArg}, {1, api.Value{S: "x"}, api.ErrArg}, {2, api.Value{N: -1}, api.ErrArg},
		{0, val(long + "x"), api.ErrMany}, {1, val(long + "x"), api.ErrMany}, {2, val(long + "x"), api.ErrMany}, {3, val(long + "x"), api.ErrMany},
		{0, api.Value{Type: api.TyBool, N: 2}, api.ErrArg}, {1, api.Value{Type: api.TyInt, S: "x"}, api.ErrArg}, {1, api.Value{Type: api.TyText, N: 1}, api.ErrArg},
		{0, val(nil), api.ErrNull}, {1, val(nil), api.ErrNull}, {2, val(nil), api.ErrNull}, {3, val(nil), api.OK}, {4, val(nil), api.OK}, {5, val(nil), api.OK},
		{0, val(true), api.ErrType}, {0, val("1"), api.ErrType}, {1, val(1), api.ErrType}, {1, val(0), api.ErrType}, {2, val(0), api.ErrType}, {2, val(false), api.ErrType},
		{3, val(false), api.ErrType}, {4, val(0), api.ErrType}, {5, val(0), api.ErrType}, {5, api.Value{Type: 4}, api.ErrArg},
	} {
		r := sound()
		r[c.place] = c.v
		checkErr(t, told(r), d.Fits(0, r), c.want)
	}
}

// How many values a row has is told ahead of what they are.
func TestFitsShape(t *testing.T) {
	d := fresh(t, columns)
	for n := range 3 * api.MaxCols {
		for _, v := range allValues() {
			var r rowOf
			for range n {
				r = append(r, v)
			}
			if n != len(sound()) {
				checkErr(t, told(r), d.Fits(0, r), api.ErrShape)
			}
		}
	}
	checkErr(t, "nil", d.Fits(0, nil), api.ErrShape)
	checkErr(t, "a beginning", d.Fits(0, sound()[:5]), api.ErrShape)
	checkErr(t, "one more", d.Fits(0, append(sound(), val(nil))), api.ErrShape)
}

// A table may have one column, and as many as there may be.
func TestFitsWidths(t *testing.T) {
	for _, n := range []int{1, 2, api.MaxCols - 1, api.MaxCols} {
		s := api.Schema{Levels: []string{"low"}, Tables: []api.Table{{Name: "t", Rows: "low"}}}
		var r rowOf
		for i := range n {
			name := string(rune('a'+i%26)) + string(rune('a'+i/26))
			s.Tables[0].Cols = append(s.Tables[0].Cols, api.Col{Name: name, Type: api.TyInt, Level: "low"})
			s.Tables[0].Key = append(s.Tables[0].Key, name)
			r = append(r, val(i))
		}
		d := store.New(catalogOf(t, s))
		checkErr(t, "as many", d.Fits(0, r), api.OK)
		checkErr(t, "one fewer", d.Fits(0, r[1:]), api.ErrShape)
		checkErr(t, "one more", d.Fits(0, append(r, val(0))), api.ErrShape)
		checkErr(t, "add", d.Add(0, r), api.OK)
		checkErr(t, "add again", d.Add(0, r), api.ErrKey)
		other := append(rowOf{}, r...)
		other[n-1] = val(-1)
		checkErr(t, "the last alone is another one", d.Add(0, other), api.OK)
		other[n-1] = val("")
		checkErr(t, "the last has another type", d.Fits(0, other), api.ErrType)
		other[n-1] = val(nil)
		checkErr(t, "the last is null", d.Add(0, other), api.ErrNull)
	}
}

// noTables are numbers that are no table's of one with n.
func noTables(n int) []int { return []int{-1, math.MinInt, n, n + 1, math.MaxInt} }

func TestFitsOfNoTable(t *testing.T) {
	d := full(t)
	for _, n := range noTables(beyond) {
		for _, r := range []rowOf{nil, sound(), ones("a")[0], row(api.Value{Type: 9})} {
			checkErr(t, "no table", d.Fits(n, r), api.ErrArg)
		}
	}
	for n := -1; n < beyond; n++ {
		for _, r := range []rowOf{nil, sound(), ones("a")[0], row(api.Value{Type: 9})} {
			checkErr(t, "nil", (*store.DB)(nil).Fits(n, r), api.ErrNil)
			checkErr(t, "one that no call made", new(store.DB).Fits(n, r), api.ErrNil)
		}
	}
	checkErr(t, "a table of its own", d.Fits(open, row("a")), api.OK)
	checkErr(t, "a table of its own", d.Fits(keyed, row("a")), api.ErrShape)
	checkErr(t, "there already", d.Fits(open, d.Rows(open)[0]), api.OK)
}
