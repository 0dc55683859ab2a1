package store_test

import (
	"slices"
	"testing"

	"cordon/api"
	"cordon/schema"
	"cordon/store"
)

// P12.3

func TestRowsAndVisible(t *testing.T) {
	d := full(t)
	want := [][2][]rowOf{
		keyed: {list(row(1, true, "a"), row(2, nil, nil), row(1, false, "b"), row(3, true, "a")), list(row(2, nil, nil), row(1, false, "b"))},
		some:  {list(row(1, "x", nil, 5), row(1, nil, nil, 6), row(1, "y", true, 7), row(2, "x", nil, 5)), list(row(1, nil, nil, 6), row(1, "y", true, 7))},
		whole: {list(row(nil, nil), row(1, nil), row(nil, true), row(1, false)), list(row(1, nil), row(1, false))},
		free:  {ones(3, -1, nil, -1, 3), ones(3, nil, 3)},
		open:  {ones("b", "", "a"), ones("b", "", "a")},
	}
	for i, w := range want {
		checkRows(t, "rows", d.Rows(i), w[0])
		checkRows(t, "visible", d.Visible(i), w[1])
	}
	checkErr(t, "all hidden", d.Put(free, ones(-1, -2)), api.OK)
	checkRows(t, "all hidden", d.Visible(free), nil)
	checkRows(t, "all hidden", d.Rows(free), ones(-1, -2))
	for _, n := range noTables(beyond) {
		checkRows(t, "no table's rows", d.Rows(n), nil)
		checkRows(t, "no table's visible rows", d.Visible(n), nil)
	}
}

func TestOfNil(t *testing.T) {
	for _, d := range []*store.DB{nil, new(store.DB)} {
		for n := -1; n < 3; n++ {
			if d.Rows(n) != nil || d.Visible(n) != nil || d.Hidden(n, row(1)) || d.Hidden(n, nil) {
				t.Errorf("rows in none: %v %v", d.Rows(n), d.Visible(n))
			}
			checkErr(t, "fits", d.Fits(n, row(1)), api.ErrNil)
			checkErr(t, "put", d.Put(n, nil), api.ErrNil)
			checkErr(t, "add", d.Add(n, row(1)), api.ErrNil)
		}
		if d.Catalog() != nil || d.Copy() != nil {
			t.Errorf("of none: %v %v", d.Catalog(), d.Copy())
		}
		if !d.Same(nil) || !(*store.DB)(nil).Same(d) || d.Same(fresh(t, example)) || fresh(t, example).Same(d) || d.Same(fresh(t, "levels low;")) || fresh(t, "levels low;").Same(d) {
			t.Error("same as none")
		}
	}
}

func TestSameRows(t *testing.T) {
	c := catalog(t, several)
	rows := tells(full(t))
	make := func() *store.DB {
		d, _, err := store.Load(c, tablesOf{rows[0], rows[2], rows[4], rows[6], rows[8]})
		checkErr(t, "load", err, api.OK)
		return d
	}
	check := func(what string, a, b *store.DB, want bool) {
		t.Helper()
		if a.Same(b) != want || b.Same(a) != want || !a.Same(a) || !b.Same(b) {
			t.Errorf("%s: %v and %v, not %v", what, a.Same(b), b.Same(a), want)
		}
	}
	check("two of one catalog", make(), make(), true)
	check("two without rows", store.New(c), store.New(c), true)
	check("one without rows", make(), store.New(c), false)
	for i := range beyond {
		turned, less, one, none := make(), make(), make(), make()
		l := turned.Rows(i)
		slices.Reverse(l)
		checkErr(t, "turned", turned.Put(i, l), api.OK)
		checkErr(t, "without the last", less.Put(i, l[1:]), api.OK)
		checkErr(t, "one alone", one.Put(i, l[:1]), api.OK)
		checkErr(t, "none", none.Put(i, nil), api.OK)
		if i != free { // whose rows are the same from behind
			check("in another order", make(), turned, false)
		}
		slices.Reverse(l)
		checkErr(t, "turned back", turned.Put(i, l), api.OK)
		check("in the same order again", make(), turned, true)
		check("without the last", make(), less, false)
		check("one alone", make(), one, false)
		check("none", make(), none, false)
		first, second := make(), make()
		l[0], l[1] = l[1], l[0]
		checkErr(t, "two change places", first.Put(i, l), api.OK)
		check("two change places", first, second, false)
		checkErr(t, "in both", second.Put(i, l), api.OK)
		check("two change places in both", first, second, true)
	}
	a, b := make(), make()
	checkErr(t, "one value, of a hidden row", a.Put(keyed, list(row(1, true, "a"))), api.OK)
	checkErr(t, "one value, of a hidden row", b.Put(keyed, list(row(1, true, "b"))), api.OK)
	check("one value", a, b, false)
	checkErr(t, "null", b.Put(keyed, list(row(1, true, nil))), api.OK)
	check("a value and null", a, b, false)
	checkErr(t, "null in both", a.Put(keyed, list(row(1, true, nil))), api.OK)
	check("null and null", a, b, true)
	checkErr(t, "the last value of all", a.Add(open, row("z")), api.OK)
	check("the last value of all", a, b, false)
	checkErr(t, "the same way", b.Add(open, row("z")), api.OK)
	check("the last value of all in both", a, b, true)
}

// Two stores with unlike catalogs are the same just if the catalogs' tables are, and the rows.
func TestSameCatalogs(t *testing.T) {
	const first = "table t rows low (a int low, b text null high) key (a) hide high when a = 1; "
	const second = "table u rows high (a bool low); "
	base := loaded(t, levels+first+second, list(row(1, "x")), ones(true))
	for what, text := range map[string]string{
		"of the same schema":                   levels + first + second,
		"with other channels":                  levels + first + second + "channel out low; principal ann high;",
		"with the parts in another order":      first + second + levels,
		"with another limit":                   levels + first + second + "limit 5;",
		"with the default limit":               levels + first + second + "limit 0;",
		"with a column's brackets":             levels + "table t rows low (a int low, b text null high) key (a) hide high when (a) = (1); " + second,
		"with a level more, that nothing has":  "levels low, high, top; order low < high < top;" + first + second,
		"with levels of the same places alike": "levels low, high; order low < high; order low < high;" + first + second,
	} {
		o := loaded(t, text, list(row(1, "x")), ones(true))
		if !base.Same(o) || !o.Same(base) {
			t.Errorf("%s: not the same", what)
		}
		checkErr(t, what, o.Add(1, row(true)), api.OK)
		if base.Same(o) || o.Same(base) {
			t.Errorf("%s, with one row more: the same", what)
		}
	}
	for what, text := range map[string]string{
		"another name":             levels + "table x rows low (a int low, b text null high) key (a) hide high when a = 1; " + second,
		"another level of rows":    levels + first + "table u rows low (a bool low);",
		"another column's name":    levels + "table t rows low (a int low, c text null high) key (a) hide high when a = 1; " + second,
		"another column's level":   levels + "table t rows low (a int low, b text null low) key (a) hide high when a = 1; " + second,
		"another column's null":    levels + "table t rows low (a int low, b text high) key (a) hide high when a = 1; " + second,
		"no key":                   levels + "table t rows low (a int low, b text null high) hide high when a = 1; " + second,
		"a key more":               levels + first + "table u rows high (a bool low) key (a);",
		"no predicate":             levels + "table t rows low (a int low, b text null high) key (a); " + second,
		"another level of hidden":  levels + "table t rows low (a int low, b text null high) key (a) hide low when a = 1; " + second,
		"another predicate's mark": levels + "table t rows low (a int low, b text null high) key (a) hide high when a <= 1; " + second,
		"another number in it":     levels + "table t rows low (a int low, b text null high) key (a) hide high when a = 2; " + second,
		"another kind of it":       levels + "table t rows low (a int low, b text null high) key (a) hide high when a is null; " + second,
		"a column by its table":    levels + "table t rows low (a int low, b text null high) key (a) hide high when t.a = 1; " + second,
		"one deeper":               levels + "table t rows low (a int low, b text null high) key (a) hide high when not (a = 1); " + second,
		"a table more":             levels + first + second + "table v rows low (a int low);",
	} {
		o := loaded(t, text, list(row(1, "x")), ones(true))
		if base.Same(o) || o.Same(base) {
			t.Errorf("%s: the same", what)
		}
	}
	if o := loaded(t, levels+second+first, ones(true), list(row(1, "x"))); base.Same(o) || o.Same(base) {
		t.Error("tables in another order: the same")
	}
	if o := loaded(t, levels+first, list(row(1, "x"))); base.Same(o) || o.Same(base) {
		t.Error("a table fewer: the same")
	}
	a, b := fresh(t, levels+"table t rows low (a int low);"), fresh(t, levels+"table t rows low (a text low);")
	if a.Same(b) || b.Same(a) {
		t.Error("another type, and no rows: the same")
	}
	a, b = fresh(t, pairs("f is null")), fresh(t, pairs("not f"))
	if a.Same(b) || b.Same(a) {
		t.Error("another kind of predicate with the same parts: the same")
	}
	a, b = fresh(t, levels+"table t rows low (a int low, b int low) key (a, b);"), fresh(t, levels+"table t rows low (a int low, b int low) key (b, a);")
	if a.Same(b) || b.Same(a) {
		t.Error("a key in another order: the same")
	}
}

func TestCatalog(t *testing.T) {
	c := catalog(t, several)
	d := store.New(c)
	e, _, _ := store.Load(c, nil)
	for _, got := range []*schema.Catalog{d.Catalog(), e.Catalog(), d.Copy().Catalog(), d.Copy().Copy().Catalog()} {
		if got != c {
			t.Error("another catalog")
		}
	}
}

func TestCopy(t *testing.T) {
	d := full(t)
	c := d.Copy()
	if c == d || !c.Same(d) || !d.Same(c) {
		t.Fatal("no copy")
	}
	if !slices.EqualFunc(tells(c), tells(d), same) {
		t.Error("other rows")
	}
	added := []rowOf{row(4, nil, nil), row(9, nil, nil, 9), row(9, true), row(-9), row("9")}
	keeps(t, "a copy changes", d, func() {
		for i, r := range added {
			checkErr(t, "add to the copy", c.Add(i, r), api.OK)
			checkErr(t, "put in a copy of it", c.Copy().Put(i, nil), api.OK)
		}
	})
	keeps(t, "what was copied changes", c, func() {
		for i, r := range added { // a key that the copy has is free here
			checkErr(t, "add", d.Add(i, r), api.OK)
		}
	})
	if !c.Same(d) {
		t.Error("both have the same rows again")
	}
	for i, r := range added {
		want := api.ErrKey
		if i == free {
			want = api.OK
		}
		checkErr(t, "a copy's keys are taken", d.Copy().Add(i, r), want)
		checkErr(t, "a copy's keys are taken", d.Copy().Copy().Add(i, d.Rows(i)[0]), want)
		checkErr(t, "a copy that is emptied", c.Put(i, nil), api.OK)
		checkErr(t, "its keys are free", c.Add(i, r), api.OK)
	}
	for i := range beyond {
		checkErr(t, "put", d.Put(i, nil), api.OK)
	}
	if !d.Same(store.New(d.Catalog())) || !d.Copy().Same(d) {
		t.Error("without rows")
	}
}

// A copy adds behind the rows that it has, whatever room there is behind them in what was copied.
func TestCopiesApart(t *testing.T) {
	d := fresh(t, levels+"table t rows low (a int low) key (a);")
	var copies []*store.DB
	for n := range 50 {
		checkErr(t, "add", d.Add(0, row(n)), api.OK)
		copies = append(copies, d.Copy())
		checkErr(t, "add to the copy", copies[n].Add(0, row(-1)), api.OK)
		checkErr(t, "and to a copy of it", copies[n].Copy().Add(0, row(-2)), api.OK)
	}
	for n, c := range copies {
		checkRows(t, "a copy", c.Rows(0), append(upTo(0, n), row(-1)))
	}
	checkRows(t, "what was copied", d.Rows(0), upTo(0, 49))
}
