package erase_test

import (
	"slices"
	"strings"
	"testing"

	"cordon/api"
	"cordon/erase"
	"cordon/schema"
	"cordon/store"
)

// sameAt are the levels, of those named, at which two stores are seen as the same; asked both ways.
func sameAt(t *testing.T, c *schema.Catalog, a, b *store.DB, levels ...string) string {
	t.Helper()
	var out []string
	for _, name := range levels {
		is := erase.Same(a, b, levelOf(c, name))
		checkIs(t, "the other way round, at "+name, erase.Same(b, a, levelOf(c, name)), is)
		if is {
			out = append(out, name)
		}
	}
	return strings.Join(out, " ")
}

// P20.2: one thing is changed in one table.
func TestSame(t *testing.T) {
	const tableT, tableU, tableH, tableM, tableG, tableN = 0, 1, 2, 3, 4, 5
	const all = "low a b high"
	for _, x := range []struct {
		what  string
		table int
		rows  string
		want  string
	}{
		{"nothing", tableT, "1 2 'x' true; 2 null 'y' null", all},
		{"a value at low", tableT, "3 2 'x' true; 2 null 'y' null", ""},
		{"a value at low, of the last row", tableT, "1 2 'x' true; 3 null 'y' null", ""},
		{"a value at a", tableT, "1 3 'x' true; 2 null 'y' null", "low b"},
		{"a value at a that is null then", tableT, "1 null 'x' true; 2 null 'y' null", "low b"},
		{"a value at a that was null", tableT, "1 2 'x' true; 2 0 'y' null", "low b"},
		{"a value at b", tableT, "1 2 'z' true; 2 null 'y' null", "low a"},
		{"a value at high", tableT, "1 2 'x' false; 2 null 'y' null", "low a b"},
		{"a value at high that is null then", tableT, "1 2 'x' null; 2 null 'y' null", "low a b"},
		{"values at a and b", tableT, "1 3 'z' true; 2 null 'y' null", "low"},
		{"values at a and b, of two rows", tableT, "1 3 'x' true; 2 null 'z' null", "low"},
		{"one row more", tableT, "1 2 'x' true; 2 null 'y' null; 3 null 'y' null", ""},
		{"one row fewer", tableT, "1 2 'x' true", ""},
		{"no rows", tableT, "", ""},
		{"rows in another order", tableT, "2 null 'y' null; 1 2 'x' true", ""},

		{"a value in rows at a", tableU, "1 4 6; 2 null null", "low b"},
		{"a low value in rows at a", tableU, "3 5 6; 2 null null", "low b"},
		{"a value at b in rows at a", tableU, "1 5 7; 2 null null", "low a b"},
		{"null at b in rows at a", tableU, "1 5 null; 2 null null", "low a b"},
		{"one row more at a", tableU, "1 5 6; 2 null null; 3 3 3", "low b"},
		{"no rows at a", tableU, "", "low b"},
		{"rows at a in another order", tableU, "2 null null; 1 5 6", "low b"},

		{"a hidden row more", tableH, "1 true 'p'; 2 null 'q'; 1 false null; 3 true 'r'; 4 false 's'; 5 true null; 6 true 'x'", "low a b"},
		{"a hidden row more, in front", tableH, "6 true 'x'; 1 true 'p'; 2 null 'q'; 1 false null; 3 true 'r'; 4 false 's'; 5 true null", "low a b"},
		{"a hidden row fewer", tableH, "2 null 'q'; 1 false null; 3 true 'r'; 4 false 's'; 5 true null", "low a b"},
		{"hidden rows behind all", tableH, "2 null 'q'; 1 false null; 4 false 's'; 1 true 'p'; 3 true 'r'; 5 true null", "low a b"},
		{"no hidden rows", tableH, "2 null 'q'; 1 false null; 4 false 's'", "low a b"},
		{"a hidden row's key", tableH, "7 true 'p'; 2 null 'q'; 1 false null; 3 true 'r'; 4 false 's'; 5 true null", "low a b"},
		{"a row more that is not hidden", tableH, "1 true 'p'; 2 null 'q'; 1 false null; 3 true 'r'; 4 false 's'; 5 true null; 6 false 'x'", ""},
		{"a row more whose predicate is null", tableH, "1 true 'p'; 2 null 'q'; 1 false null; 3 true 'r'; 4 false 's'; 5 true null; 6 null 'x'", ""},
		{"a row that is hidden then", tableH, "1 true 'p'; 2 true 'q'; 1 false null; 3 true 'r'; 4 false 's'; 5 true null", ""},
		{"a row that was hidden", tableH, "1 true 'p'; 2 null 'q'; 1 false null; 3 false 'r'; 4 false 's'; 5 true null", ""},
		{"null in place of false", tableH, "1 true 'p'; 2 null 'q'; 1 null null; 3 true 'r'; 4 false 's'; 5 true null", ""},
		{"visible rows in another order", tableH, "1 true 'p'; 1 false null; 2 null 'q'; 3 true 'r'; 4 false 's'; 5 true null", ""},
		{"a high value of a hidden row", tableH, "1 true 'x'; 2 null 'q'; 1 false null; 3 true 'r'; 4 false 's'; 5 true null", "low a b"},
		{"a high value of one that is not", tableH, "1 true 'p'; 2 null 'q'; 1 false 'x'; 3 true 'r'; 4 false 's'; 5 true null", "low a b"},

		{"a row hidden at a", tableM, "3 7; -1 8; 3 7; -1 8; 5 null; -2 8", "low b"},
		{"one of two the same, hidden at a", tableM, "3 7; -1 8; 3 7; 5 null", "low b"},
		{"one of two the same, not hidden", tableM, "3 7; -1 8; -1 8; 5 null", ""},
		{"a value at b of a hidden row", tableM, "3 7; -1 9; 3 7; -1 8; 5 null", "low a b"},
		{"a value at b of one that is not", tableM, "3 7; -1 8; 3 6; -1 8; 5 null", "low a"},
		{"rows that are seen as the same at low in another order", tableM, "3 6; -1 8; 3 7; -1 8; 5 null", "low a"},

		{"a row that is hidden, where Hide is the rows' level", tableG, "0 1; 4 2; 0 3; 0 4", "low a"},
		{"a value at high of rows at b", tableG, "0 1; 4 2; 0 9", "low a b"},
		{"a value of a row that is hidden at b", tableG, "1 1; 4 2; 0 3", "low a"},

		{"values of which none is seen", tableN, "5 'a'; 6 'b'; 7 'c'", "low b"},
		{"rows in another order, of which nothing is seen", tableN, "null 'y'; 1 'x'; 1 'x'", "low b"},
		{"one row fewer, of which nothing is seen", tableN, "1 'x'; null 'y'", ""},
		{"high values", tableN, "1 'a'; null 'b'; 1 'c'", "low a b"},
	} {
		for _, c := range ours() {
			a, b := ourStore(c), ourStore(c)
			if err := b.Put(x.table, rowsOf(x.rows)); err != api.OK {
				t.Fatalf("%s: %v", x.what, err)
			}
			check(t, x.what, sameAt(t, c, a, b, strings.Fields(all)...), x.want)
			checkIs(t, x.what, b.Same(a), x.want == all)
		}
	}
}

// P20.2: all tables count, and each alone.
func TestSameOfEachTable(t *testing.T) {
	for _, c := range ours() {
		empty, full := store.New(c), ourStore(c)
		for i, want := range []string{"", "low b", "", "", "low a", ""} {
			d := ourStore(c)
			d.Put(i, nil)
			check(t, i, sameAt(t, c, full, d, "low", "a", "b", "high"), want)
			e := store.New(c)
			e.Put(i, full.Rows(i))
			check(t, i, sameAt(t, c, empty, e, "low", "a", "b", "high"), want)
		}
		check(t, "empty", sameAt(t, c, empty, full, "low", "a", "b", "high"), "")
		check(t, "itself", sameAt(t, c, full, full, "low", "a", "b", "high"), "low a b high")
		check(t, "both empty", sameAt(t, c, empty, store.New(c), "low", "a", "b", "high"), "low a b high")
	}
}

// P20.2: of a null that is seen, and a value that is not, neither is the other one's match.
func TestSameNulls(t *testing.T) {
	for _, c := range two("table t rows low (a int null low, b int null high);") {
		for _, x := range [][3]string{
			{"null 1", "null null", "low"}, {"1 null", "null null", ""}, {"null 1", "1 null", ""}, {"null null", "null null", "low high"}, {"0 null", "null null", ""}, {"null 0", "null null", "low"},
			{"null null; null 1", "null 1; null null", "low"}, {"null null", "null null; null null", ""}, {"", "null null", ""},
		} {
			check(t, x, sameAt(t, c, storeOf(c, x[0]), storeOf(c, x[1]), "low", "high"), x[2])
		}
	}
}

// P20.2: at what is no level nothing is seen, so all are the same.
func TestSameAtNoLevel(t *testing.T) {
	for _, c := range ours() {
		for _, level := range noLevels(c) {
			checkIs(t, level, erase.Same(ourStore(c), store.New(c), level) && erase.Same(store.New(c), ourStore(c), level), true)
		}
	}
}

// P20.2: one catalog is not one object alone.
func TestSameOfCatalogsAlike(t *testing.T) {
	a, b := catalogOf("levels low, a, b, high;"+ourText), catalogOf("levels low, a, b, high;"+ourText)
	x, y := ourStore(a), ourStore(b)
	check(t, "as they are", sameAt(t, a, x, y, "low", "a", "b", "high"), "low a b high")
	y.Put(0, rowsOf("1 2 'x' false; 2 null 'y' null"))
	check(t, "one value", sameAt(t, a, x, y, "low", "a", "b", "high"), "low a b")
}

// noStores are one that is nil, and one that no call made.
func noStores() []*store.DB { return one(nil, new(store.DB)) }

// P20.2, of nil: are both? A store without tables, or rows, is none of these.
func TestSameOfNil(t *testing.T) {
	c := ours()[1]
	for _, a := range noStores() {
		for level := -2; level < 6; level++ {
			for _, b := range noStores() {
				checkIs(t, "both", erase.Same(a, b, level), true)
			}
			for _, d := range one(ourStore(c), store.New(c), store.New(catalogOf("levels low;"))) {
				checkIs(t, "the first", erase.Same(a, d, level), false)
				checkIs(t, "the second", erase.Same(d, a, level), false)
			}
		}
	}
}

// Same is what views that are held against each other say: it turns, and goes on.
func TestSameIsShow(t *testing.T) {
	c := ours()[2]
	all := one(ourStore(c), ourStore(c))
	for i := range 6 {
		for _, rows := range []string{"", "1 2 'x' true", "1 2 'x' null", "1 5 6", "1 5 7", "1 true 'p'", "1 false 'p'", "1 false null", "3 7", "-1 8", "3 null", "0 1", "4 2", "1 'x'", "1 'y'", "null 'x'"} {
			d := ourStore(c)
			if d.Put(i, rowsOf(rows)) == api.OK {
				all = append(all, d)
			}
		}
	}
	for level := range 4 {
		is, not := 0, 0
		for _, x := range all {
			for _, y := range all {
				want := slices.EqualFunc(erase.Show(x, level), erase.Show(y, level), func(v, w api.View) bool { return viewTold(v) == viewTold(w) })
				checkIs(t, storeTold(x)+" and "+storeTold(y), erase.Same(x, y, level), want)
				if want {
					is++
				} else {
					not++
				}
			}
		}
		if is <= len(all) || not < len(all) {
			t.Errorf("%d the same, %d not", is, not)
		}
	}
}
