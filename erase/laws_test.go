package erase_test

import (
	"testing"

	"cordon/api"
	"cordon/erase"
	"cordon/store"
)

// levelsAnd are all levels of a world, and some numbers that are none.
func (w world) levelsAnd() []int {
	return append(numbered(len(w.s.Levels), func(i int) int { return i }), -1, len(w.s.Levels))
}

// madeIn hands each of so many worlds to a test.
func madeIn(t *testing.T, from, n int, try func(m *maker)) {
	t.Helper()
	for seed := from; seed < from+n; seed++ {
		try(makerOf(seed))
		if t.Failed() {
			t.Fatalf("seed %d", seed)
		}
	}
}

// P20.1, of what is made in a loop: what the second way tells.
func TestMadeShow(t *testing.T) {
	came := map[string]int{}
	madeIn(t, 0, 2000, func(m *maker) {
		d := m.store(6)
		for _, level := range m.levelsAnd() {
			want := m.shown(d, level)
			check(t, level, showTold(d, level), viewsTold(want))
			for i, v := range want {
				switch {
				case !v.Seen:
					came["not seen"]++
				case len(v.Rows) < len(d.Rows(i)):
					came["with hidden rows"]++
				case len(v.Rows) == 0:
					came["without rows"]++
				default:
					came["with all rows"]++
				}
			}
		}
	})
	enough(t, came, 2000, "not seen", "with hidden rows", "without rows", "with all rows")
}

// P20.2, of stores that are made to be seen as the same, or not; and of any two.
func TestMadeSame(t *testing.T) {
	came := map[string]int{}
	both := func(what string, a, b *store.DB, level int, want bool) {
		t.Helper()
		if erase.Same(a, b, level) != want || erase.Same(b, a, level) != want {
			t.Errorf("%s: %s and %s: not %v", what, storeTold(a), storeTold(b), want)
		}
		came[what]++
	}
	madeIn(t, 10000, 1500, func(m *maker) {
		d, any := m.store(6), m.store(1)
		for _, level := range m.levelsAnd() {
			alike := m.alike(d, level)
			both("alike", d, alike, level, true)
			if !alike.Same(d) {
				came["alike, but not the same"]++
			}
			if touched, what, ok := m.touched(d, level); ok {
				both(what, d, touched, level, false)
				both(what, alike, touched, level, false)
			}
			both("any two", d, any, level, viewsTold(m.shown(d, level)) == viewsTold(m.shown(any, level)))
		}
	})
	enough(t, came, 200, "alike, but not the same", "a value", "a row more", "a row fewer", "another order", "any two")
}

// sound looks whether all rows of a store fit, none collide, and none are too many.
func sound(t *testing.T, m *maker, d *store.DB) {
	t.Helper()
	for i := range m.s.Tables {
		rows := d.Rows(i)
		for j, row := range rows {
			if !m.fits(i, row) || d.Fits(i, row) != api.OK {
				t.Errorf("%s does not fit", rowTold(row))
			}
			for _, other := range rows[:j] {
				if m.collide(i, row, other) {
					t.Errorf("%s and %s collide", rowTold(row), rowTold(other))
				}
			}
		}
		if len(rows) > d.Catalog().Limit() {
			t.Errorf("%d rows", len(rows))
		}
	}
}

// P20.3 and P20.5, of what is made in a loop: Mix is what the second way tells, it is Same as d, its rows fit, and none collide.
func TestMixed(t *testing.T) {
	came := map[string]int{}
	madeIn(t, 20000, 2500, func(m *maker) {
		d, o := m.store(6), m.store(6)
		for _, level := range m.levelsAnd() {
			got := erase.Mix(d, o, level)
			for i := range m.s.Tables {
				want := m.blended(d, o, i, level)
				check(t, level, rowsTold(got.Rows(i)), rowsTold(want))
				if len(d.Rows(i)) > 0 && rowsTold(want) != rowsTold(d.Rows(i)) && rowsTold(want) != rowsTold(o.Rows(i)) {
					came["of both"]++
				}
				if m.hidesSome(i, o, level) && m.sees(level, m.s.Tables[i].Rows) {
					came["hidden rows of o"]++
					if len(want) == m.c.Limit() {
						came["as many as there may be"]++
					}
				}
			}
			checkIs(t, "seen as d", erase.Same(got, d, level) && erase.Same(d, got, level), true)
			sound(t, m, got)
		}
	})
	enough(t, came, 500, "of both", "hidden rows of o", "as many as there may be")
}

// hidesSome tells whether rows of a table are hidden at a level.
func (m *maker) hidesSome(t int, d *store.DB, level int) bool {
	for _, row := range d.Rows(t) {
		if m.hiddenAt(t, row, level) {
			return true
		}
	}
	return false
}

// P20.3: what is not seen of d can't be told from Mix, but of tables in which o has no rows.
func TestMixedOfAlike(t *testing.T) {
	unlike := 0
	madeIn(t, 30000, 1000, func(m *maker) {
		d, o := m.store(6), m.store(6)
		for _, level := range m.levelsAnd() {
			alike := m.alike(d, level)
			a, b := erase.Mix(d, o, level), erase.Mix(alike, o, level)
			for i := range m.s.Tables {
				if len(o.Rows(i)) == 0 && m.sees(level, m.s.Tables[i].Rows) {
					continue
				}
				check(t, level, rowsTold(b.Rows(i)), rowsTold(a.Rows(i)))
				if rowsTold(alike.Rows(i)) != rowsTold(d.Rows(i)) {
					unlike++
				}
			}
		}
	})
	if unlike < 1000 {
		t.Errorf("%d were not the same", unlike)
	}
}

// P20.6: what is Same at a level is Same at each that stands below it; what is seen at one is seen above it.
func TestSteps(t *testing.T) {
	came := map[string]int{}
	madeIn(t, 40000, 800, func(m *maker) {
		d := m.store(6)
		for high := range m.s.Levels {
			others := one(m.alike(d, high), m.store(1), erase.Mix(d, m.store(6), high))
			if touched, _, ok := m.touched(d, high); ok {
				others = append(others, touched)
			}
			for low := range m.s.Levels {
				if !reaches(m.s, m.s.Levels[low], m.s.Levels[high]) {
					continue
				}
				moreIsSeen(t, erase.Show(d, low), erase.Show(d, high))
				for _, o := range others {
					there, here := erase.Same(d, o, high), erase.Same(d, o, low)
					if there && !here {
						t.Errorf("%s and %s are the same at %s, not at %s", storeTold(d), storeTold(o), m.s.Levels[high], m.s.Levels[low])
					}
					switch {
					case low == high:
					case there && !d.Same(o):
						came["there and here"]++
					case here && !there:
						came["here alone"]++
					case !here:
						came["nowhere"]++
					}
				}
			}
		}
	})
	enough(t, came, 300, "there and here", "here alone", "nowhere")
}

// moreIsSeen looks whether all that is seen in some views is seen in others: tables, columns, and rows, in order, with the same values, where they are seen.
func moreIsSeen(t *testing.T, less, more []api.View) {
	t.Helper()
	for i, v := range less {
		w := more[i]
		if !v.Seen {
			continue
		}
		checkIs(t, "the table", w.Seen, true)
		at := 0
		for _, row := range v.Rows {
			fits := func(other []api.Value) bool {
				for j, seen := range v.Cols {
					if seen && other[j] != row[j] {
						return false
					}
				}
				return true
			}
			for at < len(w.Rows) && !fits(w.Rows[at]) {
				at++
			}
			if at == len(w.Rows) {
				t.Errorf("%s is not in %s", rowTold(row), viewTold(w))
				return
			}
			at++
		}
		for j, seen := range v.Cols {
			if seen && !w.Cols[j] {
				t.Errorf("column %d of %s", j, viewTold(w))
			}
		}
	}
}

// P20.6, of our tables: at each level all that is seen below it; at the greatest one all that there is.
func TestStepsOfOurs(t *testing.T) {
	for _, c := range ours() {
		l, d := c.Lattice(), ourStore(c)
		for high := range 4 {
			for low := range 4 {
				if l.Leq(low, high) {
					moreIsSeen(t, erase.Show(d, low), erase.Show(d, high))
				}
			}
		}
		for i, v := range erase.Show(d, l.Top()) {
			check(t, "all", rowsTold(v.Rows), rowsTold(d.Rows(i)))
		}
	}
}
