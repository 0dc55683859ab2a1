package erase_test

import (
	"testing"

	"cordon/api"
	"cordon/erase"
	"cordon/schema"
	"cordon/store"
)

// unlike are catalogs of other tables, columns, levels and limits; some have the same tables but for their levels.
func unlike() []*schema.Catalog {
	out := ours()
	for _, text := range []string{
		"levels low;", "levels one; table t rows one (a int one);", "levels one; table t rows one (a text null one); table u rows one (b bool null one, c text one, d int null one, e int one);",
		"levels one; limit 1; table t rows one (i int one, x int null one, y text one, z bool null one); table u rows one (k text one);",
		"levels high, low; order low < high; table t rows high (i int low, x int null low, y text low, z bool null low) hide high when i < 2; table u rows low (k int null low, v int null low, w int null low) hide high when v is null; table h rows low (k int null low);",
		"levels low, high; order low < high; table t rows low (i int null low, x int null high, y text null high, z bool null high); table u rows low (k int null high, v int null high, w int null high) hide high when true; table h rows high (k int null low);",
		"levels low, a, b, high; order low < a < high; order low < b < high; limit 2; table t rows low (z bool null high, y text b, x int null a, i int low); table u rows low (k int low, v int null high, w int null high) key (k);",
	} {
		out = append(out, catalogOf(text))
	}
	return out
}

// filled has rows of values of each type in its tables, as many as may be there.
func filled(c *schema.Catalog) *store.DB {
	d := store.New(c)
	for t, r := range c.Tables() {
		for n := range 8 {
			d.Add(t, numbered(len(r.Cols), func(i int) api.Value {
				words := [][]string{api.TyBool: {"true", "false"}, api.TyInt: {"0", "1", "2", "3", "-1"}, api.TyText: {"'x'", "''", "'y'"}}[r.Cols[i].Type]
				if r.Cols[i].Null && (n+i)%3 == 0 {
					return val("null")
				}
				return val(words[(n+i)%len(words)])
			}))
		}
	}
	return d
}

// P1: stores of unlike catalogs. Same tells whether their views are the same; what Mix makes is seen as d.
func TestUnlikeCatalogs(t *testing.T) {
	var all []*store.DB
	for _, c := range unlike() {
		all = append(all, filled(c), store.New(c))
	}
	is, not := 0, 0
	for _, d := range all {
		for _, o := range all {
			wasD, wasO := storeTold(d), storeTold(o)
			for level := -1; level < 6; level++ {
				got := erase.Mix(d, o, level)
				checkIs(t, "seen as d", erase.Same(got, d, level), true)
				want := showTold(d, level) == showTold(o, level)
				checkIs(t, showTold(d, level)+" and "+showTold(o, level), erase.Same(d, o, level), want)
				if want {
					is++
				} else {
					not++
				}
			}
			check(t, "d", storeTold(d), wasD)
			check(t, "o", storeTold(o), wasO)
		}
	}
	if is < 100 || not < 100 {
		t.Errorf("%d are the same, %d not", is, not)
	}
}

// Lists that are nil, or empty, are all one.
func TestEmptyOrNil(t *testing.T) {
	c := ours()[0]
	for _, rows := range [][][]api.Value{nil, {}} {
		d := store.New(c)
		for i := range c.Tables() {
			d.Put(i, rows)
		}
		for level := -1; level < 5; level++ {
			checkIs(t, level, erase.Same(d, store.New(c), level), true)
			check(t, level, storeTold(erase.Mix(d, store.New(c), level)), storeTold(store.New(c)))
		}
	}
}
