package store_test

import (
	"testing"

	"cordon/api"
	"cordon/schema"
	"cordon/store"
)

type tablesOf = [][]rowOf

// three are tables of which each has a key, with few rows.
const three = levels + "table t rows low (a int low) key (a); table u rows low (a text low) key (a) hide high when a = 'x'; table v rows low (a bool null low); limit 3;"

func TestLoad(t *testing.T) {
	c := catalog(t, three)
	for _, l := range []tablesOf{
		nil, {}, {nil}, {{}}, {nil, nil, nil}, {ones(1)}, {ones(1, 2, 3)}, {nil, ones("a")}, {nil, nil, ones(true)}, {nil, {}, ones(nil, nil, nil)},
		{ones(2, 1), ones("x", "b", "a"), ones(true, true)}, {ones(3, 1, 2), nil, ones(nil)}, {ones(1), ones("1")},
	} {
		d, at, err := store.Load(c, l)
		if d == nil || at != 0 || err != api.OK {
			t.Fatalf("%v: %v %d %v", l, d, at, err)
		}
		if d.Catalog() != c {
			t.Error("another catalog")
		}
		byHand := store.New(c)
		for i := range 3 {
			var want []rowOf
			if i < len(l) {
				want = l[i]
			}
			checkRows(t, "rows", d.Rows(i), want)
			checkErr(t, "put", byHand.Put(i, want), api.OK)
		}
		if !d.Same(byHand) {
			t.Errorf("%v: not as if they were put", l)
		}
	}
}

func notLoaded(t *testing.T, what string, c *schema.Catalog, l tablesOf, wantAt int, want api.Errno) {
	t.Helper()
	if d, at, err := store.Load(c, l); d != nil || at != wantAt || err != want {
		t.Errorf("%s: %v %d %v, not nil %d %v", what, d, at, err, wantAt, want)
	}
}

func TestLoadErrors(t *testing.T) {
	c := catalog(t, three)
	wrong := tablesOf{ones(nil), ones(1), ones("")} // does not fit, whatever the table: by place ErrNull, ErrType, ErrType
	for _, c2 := range []struct {
		name string
		l    tablesOf
		at   int
		want api.Errno
	}{
		{"the first", tablesOf{wrong[0], ones("a"), ones(true)}, 1, api.ErrNull},
		{"the middle one", tablesOf{ones(1), wrong[1], ones(true)}, 2, api.ErrType},
		{"the last", tablesOf{ones(1), ones("a"), wrong[2]}, 3, api.ErrType},
		{"the first alone", tablesOf{wrong[0]}, 1, api.ErrNull},
		{"the last that there is", tablesOf{nil, wrong[1]}, 2, api.ErrType},
		{"the last row", tablesOf{ones(1, 2), ones("a", "b", nil)}, 2, api.ErrNull},
		{"two", tablesOf{wrong[0], wrong[1], nil}, 1, api.ErrNull},
		{"the last two", tablesOf{nil, ones("a", "a"), wrong[2]}, 2, api.ErrKey},
		{"the first and the last", tablesOf{ones(1, 1), nil, wrong[2]}, 1, api.ErrKey},
		{"too many, and then one that collides", tablesOf{upTo(1, 4), ones("a", "a")}, 1, api.ErrRows},
		{"one that collides, and then too many", tablesOf{ones(1, 1), ones("a", "b", "c", "d")}, 1, api.ErrKey},
		{"all three", wrong, 1, api.ErrNull},
		{"hidden ones that collide", tablesOf{nil, ones("x", "a", "x")}, 2, api.ErrKey},
		{"too many without a key", tablesOf{nil, nil, ones(nil, nil, nil, nil)}, 3, api.ErrRows},
		{"one list too many", tablesOf{nil, nil, nil, nil}, 4, api.ErrArg},
		{"one list too many, empty", tablesOf{ones(1), nil, nil, {}}, 4, api.ErrArg},
		{"one list too many, with a row", tablesOf{ones(1), ones("a"), nil, ones(1)}, 4, api.ErrArg},
		{"several too many", tablesOf{nil, nil, nil, nil, nil, nil, ones(1)}, 4, api.ErrArg},
		{"one too many, and the first is wrong", tablesOf{wrong[0], nil, nil, nil}, 4, api.ErrArg},
		{"one too many, and the last is wrong", tablesOf{nil, nil, wrong[2], nil}, 4, api.ErrArg},
		{"one too many, and all are wrong", append(wrong[:3:3], ones(1)), 4, api.ErrArg},
	} {
		notLoaded(t, c2.name, c, c2.l, c2.at, c2.want)
		notLoaded(t, c2.name+", without a catalog", nil, c2.l, 0, api.ErrNil)
		notLoaded(t, c2.name+", with one that no call made", new(schema.Catalog), c2.l, 0, api.ErrNil)
	}
	notLoaded(t, "nothing without a catalog", nil, nil, 0, api.ErrNil)
	if store.New(new(schema.Catalog)) != nil {
		t.Error("one with a catalog that no call made")
	}
}

// Each error of Put comes from each place, with that place.
func TestLoadEachErrorAtEachPlace(t *testing.T) {
	text := levels
	for _, name := range []string{"a", "b", "c", "d", "e"} {
		text += "table " + name + " rows low (n int low, s text null low) key (n) hide high when s = 'x'; "
	}
	c := catalog(t, text+"limit 2;")
	good := list(row(1, "x"), row(1, nil))
	faults := map[api.Errno][]rowOf{
		api.ErrShape: list(row(1)), api.ErrArg: list(row(1, nil), row(1, api.Value{N: 1})), api.ErrMany: list(row(1, long+"x")), api.ErrNull: list(row(nil, nil)),
		api.ErrType: list(row(1, nil), row(2, 2)), api.ErrRows: list(row(1, nil), row(2, nil), row(3, nil)), api.ErrKey: list(row(1, nil), row(1, "y")),
	}
	for want, fault := range faults {
		for place := range 5 {
			l := tablesOf{good, good, good, good, good}
			l[place] = fault
			notLoaded(t, "one", c, l, place+1, want)
			notLoaded(t, "and no lists behind", c, l[:place+1], place+1, want)
			for second, other := range faults {
				for behind := place + 1; behind < 5; behind++ {
					both := append(tablesOf{}, l...)
					both[behind] = other
					notLoaded(t, "with "+second.Error()+" behind", c, both, place+1, want)
				}
			}
			notLoaded(t, "and one beyond", c, append(l, nil), 6, api.ErrArg)
		}
	}
}

func TestLoadWithoutTables(t *testing.T) {
	c := catalog(t, "levels low; channel out low;")
	if d, at, err := store.Load(c, nil); d == nil || at != 0 || err != api.OK || d.Catalog() != c || len(d.Rows(0)) != 0 {
		t.Errorf("%v %d %v", d, at, err)
	}
	notLoaded(t, "one", c, tablesOf{nil}, 1, api.ErrArg)
	checkErr(t, "put", store.New(c).Put(0, nil), api.ErrArg)
	checkErr(t, "add", store.New(c).Add(0, nil), api.ErrArg)
	checkErr(t, "fits", store.New(c).Fits(0, nil), api.ErrArg)
}

// As many tables as there may be, with as many rows as there may be.
func TestLoadTheMost(t *testing.T) {
	s := api.Schema{Levels: []string{"low"}}
	var l tablesOf
	for i := range api.MaxTables {
		s.Tables = append(s.Tables, api.Table{Name: string(rune('a' + i)), Rows: "low", Cols: []api.Col{{Name: "a", Type: api.TyInt, Level: "low"}}, Key: []string{"a"}})
		l = append(l, upTo(i, i+api.MaxRows-1))
	}
	c := catalogOf(t, s)
	d, at, err := store.Load(c, l)
	if d == nil || at != 0 || err != api.OK {
		t.Fatalf("%d %v", at, err)
	}
	for i := range l {
		checkRows(t, "rows", d.Rows(i), l[i])
	}
	notLoaded(t, "one beyond", c, append(l, nil), api.MaxTables+1, api.ErrArg)
	l[19] = append(l[19], row(-1))
	notLoaded(t, "one row too many in the last", c, l, 20, api.ErrRows)
}
