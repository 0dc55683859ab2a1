package change_test

import (
	"testing"

	"cordon/api"
	"cordon/store"
)

// P14.1 to P14.4, P14.6, and of P14.7 that rows stay hidden: many calls one behind the other, of tables, rows, columns and nodes made in a loop, each with the second way beside.
func TestMade(t *testing.T) {
	ends := map[string]int{}
	kinds := map[int]int{}
	for seed := range 1800 {
		m := makerOf(t, seed)
		d := m.db()
		for range 12 {
			c := m.call(api.StInsert, api.StInsertQ, api.StUpdate, api.StUpdate, api.StDelete)
			answer := watched(t, d, c)
			ends[answer]++
			if answer >= "0" && answer <= "9" {
				kinds[c.kind]++
			}
			if t.Failed() {
				t.Fatalf("seed %d: %+v", seed, c)
			}
		}
	}
	enough(t, ends, 1000, "0", "ErrKey")
	enough(t, ends, 200, "1", "2", "3", "4", "ErrArg", "ErrZero", "ErrNull", "ErrShape", "ErrRows", "ErrType")
	enough(t, ends, 50, "5", "6", "ErrOver")
	enough(t, ends, 20, "ErrSingle")
	enough(t, kinds, 1000, api.StInsert, api.StInsertQ, api.StUpdate, api.StDelete)
}

// P2: of two stores with the same rows, one of which was refused much, the same is answered behind it.
func TestRefused(t *testing.T) {
	refused := 0
	for seed := range 1500 {
		m := makerOf(t, 10000+seed)
		d := m.db()
		plain := d.Copy()
		for range 15 {
			c := m.call(api.StInsert, api.StInsertQ, api.StUpdate, api.StDelete)
			if _, err := c.do(d.Copy()); err != api.OK {
				c.do(d)
				refused++
				continue
			}
			check(t, seed, answerOf(c.do(d)), answerOf(c.do(plain)))
		}
		if !d.Same(plain) {
			t.Fatalf("seed %d: the rows are other ones", seed)
		}
		for i, r := range m.tables {
			for range 10 {
				r := m.row(r)
				check(t, seed, answerOf(0, d.Add(i, r)), answerOf(0, plain.Add(i, r)))
			}
		}
	}
	if refused < 3000 {
		t.Errorf("%d were refused", refused)
	}
}

// P12.4 of stores that are changed by this layer: all rows fit, no two collide, and none are too many: they can be put once more.
func TestAlwaysSound(t *testing.T) {
	for seed := range 1000 {
		m := makerOf(t, 20000+seed)
		d := m.db()
		for range 15 {
			m.call(api.StInsert, api.StInsert, api.StInsertQ, api.StUpdate, api.StUpdate, api.StDelete).do(d)
		}
		for i := range m.tables {
			fresh := store.New(m.catalog)
			for _, r := range d.Rows(i) {
				check(t, seed, answerOf(0, fresh.Add(i, r)), "0")
			}
		}
	}
}

// twins does an Update or a Delete to two stores with the same visible rows, and other hidden ones. It tells whether both were done, whether something visible changed, and whether both have the same visible rows then.
func twins(t *testing.T, m *maker) (done, changed, alike bool) {
	t.Helper()
	a := m.db()
	b := m.rehidden(a)
	c := m.call(api.StUpdate, api.StUpdate, api.StDelete)
	before := a.Copy()
	_, errA := c.do(a)
	_, errB := c.do(b)
	if errA != api.OK || errB != api.OK {
		return false, false, true
	}
	alike = true
	for i := range m.tables {
		alike = alike && sameRows(a.Visible(i), b.Visible(i))
		changed = changed || !sameRows(a.Visible(i), before.Visible(i))
	}
	return true, changed, alike
}

// P14.7: what is done to visible rows does not hang on hidden ones, if nothing is raised, and if queries in nodes take just visible rows; where they take all, many a time it does.
func TestVisible(t *testing.T) {
	for _, visible := range []bool{true, false} {
		calls, changes, others := 0, 0, 0
		for seed := range 12000 {
			m := makerOf(t, 40000+seed)
			m.visible = visible
			done, changed, alike := twins(t, m)
			if done {
				calls++
			}
			if changed {
				changes++
			}
			if !alike {
				others++
			}
			if visible && !alike {
				t.Fatalf("seed %d: the visible rows are other ones", seed)
			}
		}
		if calls < 6000 || changes < 1500 || !visible && others < 30 {
			t.Errorf("visible %v: %d were done, %d changed something, %d hung on hidden rows", visible, calls, changes, others)
		}
	}
}

// Where nothing can raise anything, an Update or a Delete is done to visible rows whatever is hidden, or refused, as values do not fit.
func TestVisibleCalm(t *testing.T) {
	calls, changes := 0, 0
	for seed := range 6000 {
		m := makerOf(t, 60000+seed)
		m.visible, m.calm = true, true
		done, changed, alike := twins(t, m)
		if done {
			calls++
		}
		if changed {
			changes++
		}
		if !alike {
			t.Fatalf("seed %d: the visible rows are other ones", seed)
		}
	}
	if calls < 3000 || changes < 1000 {
		t.Errorf("%d were done, %d changed something", calls, changes)
	}
}
