package store_test

import (
	"slices"
	"testing"

	"cordon/api"
	"cordon/schema"
	"cordon/store"
)

// roomy is a copy of a list with room behind it and behind each row, so that what is put there would be seen.
func roomy(l []rowOf) []rowOf {
	out := make([]rowOf, 0, len(l)+2)
	for _, r := range l {
		out = append(out, append(make(rowOf, 0, len(r)+2), r...))
	}
	return out
}

// room is a list with all that stands in the room behind it.
func room(l []rowOf) []rowOf {
	var out []rowOf
	for _, r := range l[:cap(l)] {
		out = append(out, r[:cap(r)])
	}
	return out
}

// Rule 3: what is handed in stays as it is, and is not kept.
func TestHandedInIsNotKept(t *testing.T) {
	want := tells(full(t))
	for i := range beyond {
		rows := roomy(want[2*i])
		was := copied(room(rows))
		d := fresh(t, several)
		checkErr(t, "put", d.Put(i, rows), api.OK)
		checkRows(t, "handed to Put", room(rows), was)
		spoil(rows)
		checkRows(t, "after Put", d.Rows(i), want[2*i])
		checkRows(t, "after Put", d.Visible(i), want[2*i+1])

		rows = roomy(want[2*i])
		d = fresh(t, several)
		for _, r := range rows {
			checkErr(t, "add", d.Add(i, r), api.OK)
			d.Fits(i, r)
			d.Hidden(i, r)
		}
		checkRows(t, "handed to Add, Fits and Hidden", room(rows), was)
		spoil(rows)
		checkRows(t, "after Add", d.Rows(i), want[2*i])
		checkRows(t, "after Add", d.Visible(i), want[2*i+1])

		all := make(tablesOf, beyond)
		all[i] = roomy(want[2*i])
		d, _, err := store.Load(d.Catalog(), all)
		checkErr(t, "load", err, api.OK)
		checkRows(t, "handed to Load", room(all[i]), was)
		spoil(all[i])
		all[i] = nil
		checkRows(t, "after Load", d.Rows(i), want[2*i])
		checkRows(t, "after Load", d.Visible(i), want[2*i+1])
	}
}

// A row that was handed in may be changed and handed in again: each time it is another one.
func TestOneRowManyTimes(t *testing.T) {
	d := fresh(t, levels+"table t rows low (a int low) key (a);")
	r := row(0)
	for n := range 20 {
		r[0].N = n
		checkErr(t, "add", d.Add(0, r), api.OK)
	}
	checkRows(t, "all", d.Rows(0), upTo(0, 19))
	e := fresh(t, levels+"table t rows low (a int low);")
	checkErr(t, "one row thrice", e.Put(0, list(r, r, r)), api.OK)
	r[0].N = 7
	checkRows(t, "one row thrice", e.Rows(0), ones(19, 19, 19))
	if !ownMemory(e.Rows(0), e.Visible(0), r) {
		t.Error("rows share memory")
	}
}

// What is handed out is not kept, and no two lists of it share memory.
func TestHandedOutIsOwn(t *testing.T) {
	want := tells(full(t))
	for _, d := range []*store.DB{full(t), full(t).Copy()} {
		c := d.Copy()
		var all []any
		for range 2 {
			for i := range beyond {
				all = append(all, d.Rows(i), d.Visible(i), c.Rows(i), c.Visible(i))
			}
		}
		if !ownMemory(all...) {
			t.Error("what is handed out shares memory")
		}
		for _, x := range all {
			spoil(x.([]rowOf))
		}
		for i := range beyond {
			l := d.Rows(i)
			l[0] = append(l[0][:1], api.Value{Type: 9})
			_ = append(l[:0], nil, nil)
		}
		if !slices.EqualFunc(tells(d), want, same) || !slices.EqualFunc(tells(c), want, same) {
			t.Error("what is handed out is kept")
		}
	}
}

// What a catalog hands out is its caller's: a store is held to the catalog all the same.
func TestCatalogIsNotChanged(t *testing.T) {
	d := full(t)
	for _, r := range d.Catalog().Tables() {
		for i := range r.Cols {
			r.Cols[i] = api.Field{}
		}
		for i := range r.Key {
			r.Key[i] = 9
		}
		for i := range r.When {
			r.When[i] = api.Expr{Kind: api.ExBool, N: 1}
		}
	}
	if !d.Same(full(t)) {
		t.Error("changed")
	}
	checkErr(t, "fits", d.Fits(keyed, row(1, true, nil)), api.OK)
	checkErr(t, "collides", d.Add(keyed, row(1, true, nil)), api.ErrKey)
	checkErr(t, "collides", d.Add(some, row(1, "z", true, 1)), api.ErrKey)
}

// P2, rule 6: looks, and what is refused, change nothing, and the same is answered again.
func TestCallsStandAlone(t *testing.T) {
	d := full(t)
	for range 3 {
		keeps(t, "looks", d, func() {
			for i := -1; i <= beyond; i++ {
				d.Rows(i)
				d.Visible(i)
				d.Hidden(i, row(1, true, "a"))
				d.Fits(i, row(1, true, "a"))
			}
			d.Copy()
			d.Same(nil)
			d.Same(fresh(t, several))
			d.Catalog()
			store.New(d.Catalog())
			store.Load(d.Catalog(), tablesOf{nil, nil, nil, nil, nil, nil})
			store.Load(d.Catalog(), tablesOf{list(row(1, true, "a"), row(1, true, "a"))})
		})
		refuses(t, "put", d, api.ErrKey, func() api.Errno { return d.Put(keyed, list(row(8, nil, nil), row(8, nil, nil))) })
		refuses(t, "put", d, api.ErrShape, func() api.Errno { return d.Put(some, list(row(8, nil, nil, 1), row(8))) })
		refuses(t, "put", d, api.ErrRows, func() api.Errno { return d.Put(free, upTo(1, 101)) })
		refuses(t, "add", d, api.ErrKey, func() api.Errno { return d.Add(open, row("a")) })
		refuses(t, "add", d, api.ErrType, func() api.Errno { return d.Add(open, row(1)) })
	}
	for i, r := range []rowOf{row(8, nil, nil), row(8, nil, nil, 1), row(8, true), row(8), row("8")} {
		checkErr(t, "what was refused left nothing behind", d.Add(i, r), api.OK)
	}
}

func TestSignatures(t *testing.T) {
	var _ func(c *schema.Catalog) *store.DB = store.New
	var _ func(c *schema.Catalog, tables [][][]api.Value) (*store.DB, int, api.Errno) = store.Load
	var d *store.DB
	var _ func() *schema.Catalog = d.Catalog
	var _, _ func(t int) [][]api.Value = d.Rows, d.Visible
	var _ func(t int, row []api.Value) bool = d.Hidden
	var _, _ func(t int, row []api.Value) api.Errno = d.Fits, d.Add
	var _ func(t int, rows [][]api.Value) api.Errno = d.Put
	var _ func() *store.DB = d.Copy
	var _ func(o *store.DB) bool = d.Same
}
