package erase_test

import (
	"strings"
	"testing"

	"cordon/api"
	"cordon/erase"
	"cordon/store"
)

// mixes holds Mix of stores of one table, of the rows of d and of o, at a level of two, to rows.
func mixes(t *testing.T, table, level string, l ...[3]string) {
	t.Helper()
	for _, c := range two(table) {
		for _, x := range l {
			d, o := storeOf(c, x[0]), storeOf(c, x[1])
			got := erase.Mix(d, o, levelOf(c, level))
			check(t, table+" at "+level+" of "+x[0]+" and "+x[1], storeTold(got), x[2])
			checkIs(t, "seen as d", erase.Same(got, d, levelOf(c, level)), true)
			checkIs(t, "of d's catalog", got.Catalog() == d.Catalog(), true)
		}
	}
}

// P20.3: for what is not seen the values of o's row at the same place, modulo how many o has.
func TestMixPlaces(t *testing.T) {
	const table = "table t rows low (a int low, b int null high);"
	mixes(t, table, "low",
		[3]string{"1 5; 2 6", "7 8; 9 10", "1 8; 2 10"},               // as many
		[3]string{"1 5; 2 6", "7 8; 9 10; 11 12; 13 14", "1 8; 2 10"}, // more
		[3]string{"1 5; 2 6; 3 7; 4 8; 5 9", "7 8; 9 10", "1 8; 2 10; 3 8; 4 10; 5 8"},
		[3]string{"1 5; 2 6; 3 7", "7 8", "1 8; 2 8; 3 8"},
		[3]string{"1 5; 2 null; 3 7", "", "1 5; 2 null; 3 7"}, // their own
		[3]string{"", "7 8; 9 10", ""}, [3]string{"", "", ""}, [3]string{"1 5", "7 8", "1 8"},
		[3]string{"1 5; 2 6; 3 7", "7 null; 9 10", "1 null; 2 10; 3 null"},
		[3]string{"1 null; 1 null; 1 null", "7 8; 9 10; 11 12", "1 8; 1 10; 1 12"},
		[3]string{"1 5; 1 5", "1 5; 1 6", "1 5; 1 6"},
	)
	mixes(t, table, "high",
		[3]string{"1 5; 2 6", "7 8; 9 10", "1 5; 2 6"}, [3]string{"1 5; 2 null", "7 8", "1 5; 2 null"}, [3]string{"1 5", "", "1 5"}, [3]string{"", "7 8", ""},
	)
}

// P20.3: all columns are seen, the first, the last, none.
func TestMixColumns(t *testing.T) {
	for levels, want := range map[string]string{
		"low low low": "1 'a' true; 2 'b' false; 3 'c' true", "low high high": "1 'x' false; 2 null null; 3 'x' false", "high high low": "8 'x' true; 9 null false; 8 'x' true",
		"high low high": "8 'a' false; 9 'b' null; 8 'c' false", "high high high": "8 'x' false; 9 null null; 8 'x' false",
	} {
		l := strings.Fields(levels)
		mixes(t, "table t rows low (i int "+l[0]+", s text null "+l[1]+", f bool null "+l[2]+");", "low",
			[3]string{"1 'a' true; 2 'b' false; 3 'c' true", "8 'x' false; 9 null null", want})
	}
}

// P20.3: of a table that is not seen o's rows, hidden ones among them, in order.
func TestMixNotSeen(t *testing.T) {
	for _, table := range []string{
		"table t rows high (a int low, b int null high);", "table t rows high (a int low, b int null high) hide high when a < 0;", "table t rows high (a int low, b int null low) key (a) hide high when true;",
	} {
		mixes(t, table, "low",
			[3]string{"1 5; -2 6", "-7 8; 9 null; 1 5", "-7 8; 9 null; 1 5"}, [3]string{"1 5", "", ""}, [3]string{"", "1 5; -1 6", "1 5; -1 6"}, [3]string{"1 5", "1 5", "1 5"}, [3]string{"", "", ""},
		)
		mixes(t, table, "high", [3]string{"1 5; -2 6", "-7 8; 9 null; 1 5", "1 5; -2 6"}, [3]string{"1 5", "", "1 5"}, [3]string{"", "1 5; -1 6", ""})
	}
}

// P20.3: where Hide is not seen, d's hidden rows go, and o's stand behind all others. Places are those of the rows that are told, and of all rows of o.
func TestMixHidden(t *testing.T) {
	const table = "table t rows low (a int low, b int null high) hide high when a < 0;"
	mixes(t, table, "low",
		[3]string{"-1 1; 1 2; 2 3", "7 8; 9 10", "1 8; 2 10"},     // in d, in front
		[3]string{"1 2; 2 3; -1 1", "7 8; 9 10", "1 8; 2 10"},     // behind
		[3]string{"1 2; -1 1; 2 3", "7 8; 9 10", "1 8; 2 10"},     // between
		[3]string{"-1 1; -2 2", "7 8; 9 10", ""},                  // all
		[3]string{"1 2; 2 3", "-1 8; 7 9", "1 8; 2 9; -1 8"},      // in o, in front
		[3]string{"1 2; 2 3", "7 9; -1 8", "1 9; 2 8; -1 8"},      // behind
		[3]string{"1 2; 2 3; 3 4", "-1 8", "1 8; 2 8; 3 8; -1 8"}, // all
		[3]string{"1 2; 2 3; 3 4", "-1 8; 7 9; -2 10; -1 8", "1 8; 2 9; 3 10; -1 8; -2 10; -1 8"},
		[3]string{"-5 1; 1 2; -5 1; 2 3; -5 1", "9 1; -3 6; 8 2; -2 7", "1 1; 2 6; -3 6; -2 7"}, // in both
		[3]string{"", "-3 6; 8 2; -2 null", "-3 6; -2 null"}, [3]string{"-5 1", "-3 6", "-3 6"},
		[3]string{"-5 1; 1 2; -6 3; 2 null", "", "1 2; 2 null"}, // their own, and no hidden ones of d's
		[3]string{"-5 1", "", ""},
	)
	mixes(t, table, "high",
		[3]string{"-1 1; 1 2; -2 3", "-7 8; 9 10", "-1 1; 1 2; -2 3"}, [3]string{"-1 1", "", "-1 1"}, [3]string{"1 1", "-1 1", "1 1"}, [3]string{"", "-1 1", ""},
	)
	// Hide is seen wherever rows are: d's hidden rows stay where they stand, o's do not come.
	mixes(t, "table t rows low (a int low, b int null high) hide low when a < 0;", "low",
		[3]string{"-1 1; 1 2; -2 3", "-7 8; 9 10", "-1 8; 1 10; -2 8"}, [3]string{"-1 1", "", "-1 1"}, [3]string{"1 1; 2 2", "-1 8", "1 8; 2 8"},
	)
	// What is null of a row does not hide it.
	mixes(t, "table t rows low (a int null low, b int null high) hide high when a < 0;", "low",
		[3]string{"null 1; -1 2; 1 3", "null 5; -7 6; 8 7", "null 5; 1 6; -7 6"},
	)
	mixes(t, "table t rows low (a int low, b int null high) hide high when true;", "low", [3]string{"1 1; 2 2", "3 3; 4 4; 3 3", "3 3; 4 4; 3 3"})
	mixes(t, "table t rows low (a int low, b int null high) hide high when null;", "low", [3]string{"1 1; 2 2", "3 3; 4 4; 3 3", "1 3; 2 4"})
}

// P20.3: as many hidden rows of o as Limit leaves room for, the first ones.
func TestMixLimit(t *testing.T) {
	const table = "limit 4; table t rows low (a int low, b int null high) hide high when a < 0;"
	mixes(t, table, "low",
		[3]string{"1 1; 2 2", "-1 5; 7 7", "1 5; 2 7; -1 5"},                                    // one fewer
		[3]string{"1 1; 2 2", "-1 5; -2 6; 7 7", "1 5; 2 6; -1 5; -2 6"},                        // as many
		[3]string{"1 1; 2 2", "-1 5; -2 6; -3 7", "1 5; 2 6; -1 5; -2 6"},                       // one more
		[3]string{"1 1; 2 2", "-1 5; -2 6; -3 7; -4 8", "1 5; 2 6; -1 5; -2 6"},                 // two more
		[3]string{"1 1; 2 2", "-1 5; 7 7; -1 5; -3 7", "1 5; 2 7; -1 5; -1 5"},                  // the same row twice
		[3]string{"1 1; 2 2; 3 3", "-1 5; -2 6", "1 5; 2 6; 3 5; -1 5"},                         // room for one
		[3]string{"1 1; 2 2; 3 3; 4 4", "-1 5; -2 6", "1 5; 2 6; 3 5; 4 6"},                     // no room
		[3]string{"1 1; 2 2; 3 3; 4 4", "-1 5", "1 5; 2 5; 3 5; 4 5"},                           // no room for one
		[3]string{"-1 1; -2 2; -3 3; -4 4", "-5 5; -6 6; -7 7; -8 8", "-5 5; -6 6; -7 7; -8 8"}, // d's hidden rows take none
		[3]string{"-1 1; -2 2; -3 3; 4 4", "-5 5; -6 6; -7 7; -8 8", "4 5; -5 5; -6 6; -7 7"},
		[3]string{"", "-5 5; -6 6; -7 7; -8 8", "-5 5; -6 6; -7 7; -8 8"},
	)
	mixes(t, "limit 1; table t rows low (a int low, b int null high) hide high when a < 0;", "low",
		[3]string{"1 1", "-1 5", "1 5"}, [3]string{"-1 1", "-5 5", "-5 5"}, [3]string{"-1 1", "5 5", ""}, [3]string{"", "-5 5", "-5 5"},
	)
}

// P20.3, of the greatest limit: of each number of rows that d has, o's hidden ones fill what is left.
func TestMixGreatestLimit(t *testing.T) {
	for _, c := range two("table t rows low (a int low, b int high) key (a) hide high when a < 0;") {
		low := levelOf(c, "low")
		row := func(a, b int) []api.Value {
			return one(api.Value{Type: api.TyInt, N: a}, api.Value{Type: api.TyInt, N: b})
		}
		o := store.New(c)
		o.Put(0, numbered(api.MaxRows, func(i int) []api.Value { return row(-1-i, i) }))
		for n := range api.MaxRows + 1 {
			d := store.New(c)
			d.Put(0, numbered(n, func(i int) []api.Value { return row(i, -i) }))
			want := append(numbered(n, func(i int) []api.Value { return row(i, i) }), o.Rows(0)[:api.MaxRows-n]...)
			check(t, n, rowsTold(erase.Mix(d, o, low).Rows(0)), rowsTold(want))
		}
	}
}

// P20.3, with a key: hidden rows do not collide with others of the same key; keys are d's where they are seen.
func TestMixKeys(t *testing.T) {
	const flagged = "table t rows low (k int low, f bool null low, s text null high) key (k) hide high when f;"
	mixes(t, flagged, "low",
		[3]string{"1 false 'x'", "1 true 'y'; 1 false 'z'", "1 false 'y'; 1 true 'y'"},
		[3]string{"1 false 'x'; 1 true 'w'; 2 null 'v'", "1 true 'y'; 2 true 'u'; 1 false 'z'; 3 false null", "1 false 'y'; 2 null 'u'; 1 true 'y'; 2 true 'u'"},
		[3]string{"1 true 'x'", "1 true 'y'", "1 true 'y'"}, [3]string{"1 null 'x'", "1 null 'y'; 2 false 'z'", "1 null 'y'"}, [3]string{"2 false 'x'; 1 false 'y'", "1 false 'z'; 2 false 'w'", "2 false 'z'; 1 false 'w'"},
	)
	mixes(t, flagged, "high", [3]string{"1 false 'x'; 1 true 'w'", "1 true 'y'; 2 true 'u'", "1 false 'x'; 1 true 'w'"})
	mixes(t, "table t rows low (k int null low, j text low, v int high) key (j, k);", "low",
		[3]string{"1 'a' 1; 1 'b' 2; null 'a' 3", "1 'a' 7; 2 'a' 8", "1 'a' 7; 1 'b' 8; null 'a' 7"}, [3]string{"1 'a' 1", "1 'a' 1; 2 'b' 2", "1 'a' 1"},
	)
	mixes(t, "table t rows high (k int low, v int high) key (k);", "low", [3]string{"1 1; 2 2", "2 7; 1 8", "2 7; 1 8"})
	mixes(t, "table t rows high (k int low, v int high) key (k);", "high", [3]string{"1 1; 2 2", "2 7; 1 8", "1 1; 2 2"})
}

// ourOther has other rows than ourStore, more, fewer, as many, or none.
const ourOther = "7 null 'v' false; 8 9 'w' null; 9 1 'z' true" +
	"| 1 50 60" +
	"| 1 true 'P'; 9 false 'Q'" +
	"| -3 70; 4 80; -5 90" +
	"|" +
	"| 10 'X'; 20 'Y'; 30 'Z'"

// P20.3, of all tables, at each level, both ways.
func TestMix(t *testing.T) {
	for _, x := range []struct{ level, there, back string }{
		{"low", "1 null 'v' false; 2 9 'w' null | 1 50 60 | 2 null 'P'; 1 false 'Q'; 4 false 'P'; 1 true 'P' | 3 70; 3 80; 5 90; -3 70; -5 90 |  | 10 'X'; 20 'Y'; 30 'Z'",
			"7 2 'x' true; 8 null 'y' null; 9 2 'x' true | 1 5 6; 2 null null | 9 false 'p'; 1 true 'p'; 3 true 'r'; 5 true null | 4 7; -1 8; -1 8 | 0 1; 4 2; 0 3 | 1 'x'; null 'y'; 1 'x'"},
		{"a", "1 2 'v' false; 2 null 'w' null | 1 5 60; 2 null 60 | 2 null 'P'; 1 false 'Q'; 4 false 'P'; 1 true 'P' | 3 70; -1 80; 3 90; -1 70; 5 80 |  | 1 'X'; null 'Y'; 1 'Z'",
			"7 null 'x' true; 8 9 'y' null; 9 1 'x' true | 1 50 6 | 9 false 'p'; 1 true 'p'; 3 true 'r'; 5 true null | -3 7; 4 8; -5 7 | 0 1; 4 2; 0 3 | 10 'x'; 20 'y'; 30 'x'"},
		{"b", "1 null 'x' false; 2 9 'y' null | 1 50 60 | 2 null 'P'; 1 false 'Q'; 4 false 'P'; 1 true 'P' | 3 7; 3 7; 5 null; -3 70; -5 90 | 0 1; 4 2; 0 3 | 10 'X'; 20 'Y'; 30 'Z'",
			"7 2 'v' true; 8 null 'w' null; 9 2 'z' true | 1 5 6; 2 null null | 9 false 'p'; 1 true 'p'; 3 true 'r'; 5 true null | 4 80; -1 8; -1 8 |  | 1 'x'; null 'y'; 1 'x'"},
	} {
		for _, c := range ours() {
			d, o := ourStore(c), storeOf(c, split(ourOther)...)
			check(t, x.level, storeTold(erase.Mix(d, o, levelOf(c, x.level))), x.there)
			check(t, x.level+", back", storeTold(erase.Mix(o, d, levelOf(c, x.level))), x.back)
		}
	}
	for _, c := range ours() {
		d, o := ourStore(c), storeOf(c, split(ourOther)...)
		check(t, "high", storeTold(erase.Mix(d, o, levelOf(c, "high"))), storeTold(d))
		check(t, "high, back", storeTold(erase.Mix(o, d, levelOf(c, "high"))), storeTold(o))
		for _, level := range noLevels(c) { // where nothing is seen, all is as o
			check(t, level, storeTold(erase.Mix(d, o, level)), storeTold(o))
			check(t, level, storeTold(erase.Mix(o, d, level)), storeTold(d))
		}
	}
}

// P20.3, of a store with itself: where nothing of it is hidden it is the same; else hidden rows stand behind all.
func TestMixWithItself(t *testing.T) {
	const behind = "2 null 'p'; 1 false 'q'; 4 false null; 1 true 'p'; 3 true 'r'; 5 true null"
	for _, c := range ours() {
		d := ourStore(c)
		for level, want := range map[string][2]string{
			"low": {behind, "3 7; 3 8; 5 7; -1 8; -1 8"}, "a": {behind, "3 7; -1 8; 3 7; -1 8; 5 null"}, "b": {behind, "3 7; 3 7; 5 null; -1 8; -1 8"}, "high": {rowsTold(d.Rows(2)), rowsTold(d.Rows(3))},
		} {
			got := erase.Mix(d, d, levelOf(c, level))
			for i := range 6 {
				switch i {
				case 2, 3:
					check(t, level, rowsTold(got.Rows(i)), want[i-2])
				default:
					check(t, level, rowsTold(got.Rows(i)), rowsTold(d.Rows(i)))
				}
			}
			checkIs(t, "another one", got != d, true)
		}
	}
}

// P20.3, of nil: nil. A store without rows, or tables, is none.
func TestMixOfNil(t *testing.T) {
	for _, none := range noStores() {
		for level := -2; level < 6; level++ {
			for _, other := range append(noStores(), ourStore(ours()[0]), store.New(catalogOf("levels low;"))) {
				if erase.Mix(none, other, level) != nil || erase.Mix(other, none, level) != nil {
					t.Errorf("a store at %d of %s", level, storeTold(other))
				}
			}
		}
	}
	c := catalogOf("levels low;")
	for _, level := range one(-1, 0, 1) {
		if got := erase.Mix(store.New(c), store.New(c), level); got == nil || got.Catalog() != c || len(erase.Show(got, 0)) > 0 {
			t.Errorf("without tables: %v", got)
		}
	}
}

// changes takes the first row of each table away, and adds another one.
func changes(d *store.DB) {
	for i := range d.Catalog().Tables() {
		rows := d.Rows(i)
		if len(rows) > 0 {
			d.Put(i, rows[1:])
		}
		d.Add(i, numbered(len(d.Catalog().Tables()[i].Cols), func(j int) api.Value {
			return one(val("null"), val("true"), val("99"), val("'zz'"))[d.Catalog().Tables()[i].Cols[j].Type]
		}))
	}
}

// What Mix makes is changed without a change of d and o, and d and o without a change of it.
func TestMixApart(t *testing.T) {
	for _, c := range ours() {
		for level := -1; level < 5; level++ {
			d, o := ourStore(c), storeOf(c, split(ourOther)...)
			wasD, wasO := storeTold(d), storeTold(o)
			got, again := erase.Mix(d, o, level), erase.Mix(d, o, level)
			was := storeTold(got)
			changes(got)
			checkIs(t, "it is changed", storeTold(got) != was, true)
			check(t, "d", storeTold(d), wasD)
			check(t, "o", storeTold(o), wasO)
			check(t, "another one", storeTold(again), was)
			check(t, "anew", storeTold(erase.Mix(d, o, level)), was)
			changes(d)
			changes(o)
			checkIs(t, "d and o are changed", storeTold(d) != wasD && storeTold(o) != wasO, true)
			check(t, "the other one then", storeTold(again), was)
			itself := erase.Mix(again, again, level)
			changes(itself)
			check(t, "mixed with itself", storeTold(again), was)
		}
	}
}

// What Mix makes keeps to its catalog as any store does: keys are taken, and Limit is its own.
func TestMixIsAStore(t *testing.T) {
	c := catalogOf("levels low, high; order low < high; limit 3; table t rows low (k int low, f bool null low, s text null high) key (k) hide high when f;")
	d := erase.Mix(storeOf(c, "1 false 'x'"), storeOf(c, "1 true 'y'; 2 false 'z'"), 0)
	for _, x := range []struct {
		row  string
		want api.Errno
	}{{"1 null 'a'", api.ErrKey}, {"1 true 'a'", api.ErrKey}, {"null true 'a'", api.ErrNull}, {"2 true 'a'", api.OK}, {"3 true 'a'", api.ErrRows}} {
		if err := d.Add(0, rowsOf(x.row)[0]); err != x.want {
			t.Errorf("%s: %v", x.row, err)
		}
	}
	check(t, "rows", storeTold(d), "1 false 'y'; 1 true 'y'; 2 true 'a'")
}

// Of catalogs that are alike it is the same as of one.
func TestMixOfCatalogsAlike(t *testing.T) {
	a, b := catalogOf("levels low, a, b, high;"+ourText), catalogOf("levels low, a, b, high;"+ourText)
	for level := -1; level < 5; level++ {
		check(t, level, storeTold(erase.Mix(ourStore(a), storeOf(b, split(ourOther)...), level)), storeTold(erase.Mix(ourStore(a), storeOf(a, split(ourOther)...), level)))
	}
}
