package store_test

import (
	"slices"
	"testing"

	"cordon/api"
	"cordon/schema"
	"cordon/store"
)

// begun is a catalog made at random, and the second way's tables, without rows.
func begun(t testing.TB, m maker) (*schema.Catalog, *model) {
	t.Helper()
	c := catalogOf(t, m.schema())
	w := &model{tables: c.Tables(), limit: c.Limit()}
	w.rows = make([][]rowOf, len(w.tables))
	return c, w
}

func agree(t testing.TB, d *store.DB, w *model) {
	t.Helper()
	for i := range w.tables {
		checkRows(t, "rows", d.Rows(i), w.rows[i])
		checkRows(t, "visible", d.Visible(i), w.visible(i))
	}
}

// alwaysSound looks at what must always be, of rows as they are told.
func alwaysSound(t testing.TB, d *store.DB, w *model) {
	t.Helper()
	for i := range w.tables {
		l := d.Rows(i)
		if len(l) > w.limit {
			t.Errorf("%d rows of %d", len(l), w.limit)
		}
		for n, r := range l {
			checkErr(t, "fits", d.Fits(i, r), api.OK)
			checkErr(t, "fits, the second way", w.fits(i, r), api.OK)
			for _, o := range l[:n] {
				if w.collide(i, r, o) {
					t.Errorf("%s collide", told(r, o))
				}
			}
		}
	}
}

// done does something at random to a store and the second way, and tells what was answered.
func done(t testing.TB, m maker, d *store.DB, w *model) api.Errno {
	t.Helper()
	at := m.Intn(len(w.tables))
	of := w.tables[at]
	if m.often(3) {
		at = pick(m, -1, len(w.tables), len(w.tables)+5)
	}
	var got, want api.Errno
	switch m.Intn(8) {
	case 0:
		rows := m.list(of, w.limit+2, pick(m, 0, 0, 1))
		got, want = d.Put(at, rows), w.put(at, rows)
	case 1: // some of its own rows, in another order
		rows := d.Rows(at)
		m.Shuffle(len(rows), func(i, j int) { rows[i], rows[j] = rows[j], rows[i] })
		rows = rows[:m.Intn(len(rows)+1)]
		got, want = d.Put(at, rows), w.put(at, rows)
	default:
		row := m.row(of, pick(m, 0, 0, 10))
		got, want = d.Add(at, row), w.add(at, row)
	}
	checkErr(t, "what is answered", got, want)
	return got
}

// P12.4, P12.5: whatever is done, with the second way beside.
func TestAlways(t *testing.T) {
	ends := map[api.Errno]int{}
	for _, m := range makers(600) {
		c, w := begun(t, m)
		d := store.New(c)
		for range 40 {
			before := d.Copy()
			err := done(t, m, d, w)
			ends[err]++
			if err != api.OK && !d.Same(before) {
				t.Error("what is refused changes something")
			}
			agree(t, d, w)
			alwaysSound(t, d, w)
		}
		if t.Failed() {
			return
		}
	}
	for _, err := range []api.Errno{api.OK, api.ErrArg, api.ErrType, api.ErrKey, api.ErrMany, api.ErrRows, api.ErrNull, api.ErrShape} {
		if ends[err] < 20 {
			t.Errorf("%v: %d times", err, ends[err])
		}
	}
}

// P12.2, Load: over tables made in a loop, with the second way beside.
func TestLoads(t *testing.T) {
	ends := map[api.Errno]int{}
	for _, m := range makers(8000) {
		c, w := begun(t, m)
		var l tablesOf
		for i := range m.Intn(len(w.tables) + 2) {
			l = append(l, m.list(w.tables[min(i, len(w.tables)-1)], min(w.limit, 4), pick(m, 0, 0, 5)))
		}
		at, want := 0, api.OK
		if len(l) > len(w.tables) {
			at, want = len(w.tables)+1, api.ErrArg
		}
		for i := 0; i < len(l) && want == api.OK; i++ {
			if want = w.put(i, l[i]); want != api.OK {
				at = i + 1
			}
		}
		d, gotAt, got := store.Load(c, l)
		if got != want || gotAt != at || (d == nil) != (want != api.OK) {
			t.Fatalf("%d %v, not %d %v", gotAt, got, at, want)
		}
		ends[got]++
		if d != nil {
			agree(t, d, w)
			alwaysSound(t, d, w)
		}
	}
	for _, err := range []api.Errno{api.OK, api.ErrArg, api.ErrType, api.ErrKey, api.ErrNull, api.ErrShape} {
		if ends[err] < 20 {
			t.Errorf("%v: %d times", err, ends[err])
		}
	}
}

// P12.5: of two stores with the same rows, one of which was refused much, the same is answered behind it.
func TestRefused(t *testing.T) {
	refused := 0
	for _, m := range makers(400) {
		c, w := begun(t, m)
		d := store.New(c)
		for range 10 {
			done(t, m, d, w)
		}
		plain := d.Copy()
		for range 20 {
			at := m.Intn(len(w.tables))
			if rows := m.list(w.tables[at], w.limit+2, 5); d.Copy().Put(at, rows) != api.OK {
				d.Put(at, rows)
				refused++
			}
			if row := m.row(w.tables[at], 5); d.Copy().Add(at, row) != api.OK {
				d.Add(at, row)
				refused++
			}
		}
		if !d.Same(plain) {
			t.Fatal("what is refused changes rows")
		}
		for range 20 {
			at := m.Intn(len(w.tables))
			row := m.row(w.tables[at], 5)
			if got, want := d.Add(at, row), plain.Add(at, row); got != want || !d.Same(plain) {
				t.Fatalf("%v, not %v", got, want)
			}
		}
	}
	if refused < 2000 {
		t.Errorf("%d were refused", refused)
	}
}

// P12.6: two stores with the same visible rows, and unlike hidden ones, go on alike, but for want of room.
func TestApart(t *testing.T) {
	hiddenRows, keys := 0, 0
	for _, m := range makers(1500) {
		c, w := begun(t, m)
		a, b := store.New(c), store.New(c)
		for range 40 {
			at := m.Intn(len(w.tables))
			row := m.row(w.tables[at], 0)
			if w.fits(at, row) == api.OK && w.hidden(at, row) {
				if pick(m, a, b).Add(at, row) == api.OK {
					hiddenRows++
				}
				continue
			}
			x, y := a.Copy().Add(at, row), b.Copy().Add(at, row)
			if x == api.ErrRows || y == api.ErrRows {
				continue
			}
			if x != y || a.Add(at, row) != x || b.Add(at, row) != y {
				t.Fatalf("%s: %v and %v", told(row), x, y)
			}
			if x == api.ErrKey {
				keys++
			}
			for i := range w.tables {
				checkRows(t, "visible", a.Visible(i), b.Visible(i))
			}
		}
		if t.Failed() {
			return
		}
	}
	if hiddenRows < 2000 || keys < 2000 {
		t.Errorf("%d hidden rows, %d keys that were there", hiddenRows, keys)
	}
}

// P12.6, by Put: what is visible, put together with any hidden rows that collide with none of themselves, is accepted, and the same.
func TestApartByPut(t *testing.T) {
	tried := 0
	for _, m := range makers(5000) {
		c, w := begun(t, m)
		for at, of := range w.tables {
			var hidden, visible []rowOf
			for _, r := range m.list(of, w.limit, 0) {
				if w.hidden(at, r) {
					hidden = append(hidden, r)
				} else {
					visible = append(visible, r)
				}
			}
			all := slices.Concat(hidden, visible)
			m.Shuffle(len(all), func(i, j int) { all[i], all[j] = all[j], all[i] })
			d := store.New(c)
			one, two, both := store.New(c).Put(at, hidden), store.New(c).Put(at, visible), d.Put(at, all)
			if (both == api.OK) != (one == api.OK && two == api.OK) {
				t.Fatalf("%v and %v, together %v", one, two, both)
			}
			if both == api.OK && len(hidden) > 0 && len(visible) > 0 {
				tried++
				e := d.Copy()
				checkErr(t, "the visible ones", e.Put(at, d.Visible(at)), api.OK)
				checkRows(t, "visible", e.Rows(at), d.Visible(at))
			}
		}
	}
	if tried < 300 {
		t.Errorf("%d were tried", tried)
	}
}

// Hidden, of predicates made in a loop and rows of any values that are right, with the second way beside.
func TestHiddenAll(t *testing.T) {
	is, not := 0, 0
	values := right()
	for _, m := range makers(3000) {
		c, w := begun(t, m)
		d := store.New(c)
		for at, of := range w.tables {
			for range 20 {
				r := m.row(of, 0)
				if m.often(50) {
					r = nil
					for range m.Intn(6) {
						r = append(r, pick(m, values...))
					}
				}
				got := d.Hidden(at, r)
				if want := w.hidden(at, r); got != want {
					t.Fatalf("%s by %+v: %v", told(r), of.When, got)
				}
				if got {
					is++
				} else {
					not++
				}
			}
		}
	}
	if is < 10000 || not < 10000 {
		t.Errorf("%d hidden, %d not", is, not)
	}
}

// Same, with the second way beside: two stores that many things were done to.
func TestSameAll(t *testing.T) {
	is, not := 0, 0
	for _, m := range makers(600) {
		c, w := begun(t, m)
		d, e := store.New(c), store.New(c)
		for range 10 {
			at := m.Intn(len(w.tables))
			row := m.row(w.tables[at], 0)
			d.Add(at, row)
			if m.often(90) {
				e.Add(at, row)
			}
			want := slices.EqualFunc(tells(d), tells(e), same)
			if d.Same(e) != want || e.Same(d) != want {
				t.Fatalf("same: %v and %v, not %v", d.Same(e), e.Same(d), want)
			}
			if want {
				is++
			} else {
				not++
			}
		}
	}
	if is < 500 || not < 500 {
		t.Errorf("%d the same, %d not", is, not)
	}
}
