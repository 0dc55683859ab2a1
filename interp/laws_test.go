package interp_test

import (
	"slices"
	"testing"

	"cordon/api"
	"cordon/interp"
	"cordon/script"
	"cordon/store"
	"cordon/value"
)

var kindNames = []string{"none", "set", "if", "while", "for", "print", "insert", "insertq", "update", "delete", "try", "raise", "call", "begin", "commit", "rollback", "skip", "input"}

// P16.1, P1, P2, of scripts made in a loop: what the second way answers. P16.3: how they end, that all rows fit, none collide, and none are too many, and that what was told is right.
func TestMade(t *testing.T) {
	ends, told := map[string]int{}, map[int]int{}
	for seed := range 4500 {
		m := makerOf(t, seed)
		a := ask{m.db(), compiled(t, m.catalog, m.script()), m.inputs(), pick(m, 20, 100, 400)}
		got := watched(t, a)
		ends[errNames[got.err]]++
		told[min(len(got.told), 5)]++
		if got.err != api.OK && got.err != api.ErrRows && got.err != api.ErrFuel && !interp.Catches(got.err) {
			t.Errorf("seed %d ends with %v", seed, got.err)
		}
		if !got.tables.Same(a.db) {
			ends["other tables"]++
		}
		endsWell(t, got)
		if t.Failed() {
			t.Fatalf("seed %d", seed)
		}
	}
	enough(t, ends, 15, "OK", "ErrOver", "ErrZero", "ErrKey", "ErrRaise", "ErrMany", "ErrRows", "ErrFuel", "ErrNull", "ErrSingle")
	enough(t, ends, 1000, "OK", "other tables")
	enough(t, told, 50, 0, 1, 2, 3, 4, 5)
}

// endsWell holds what is answered to P16.3.
func endsWell(t testing.TB, got answer) {
	t.Helper()
	d := got.tables
	for i, rows := range tablesOf(d) {
		for _, r := range rows {
			check(t, "a row fits", d.Fits(i, r), api.OK)
		}
	}
	if again, at, err := store.Load(d.Catalog(), tablesOf(d)); err != api.OK || !again.Same(d) {
		t.Errorf("the tables are refused: %d %v", at, err)
	}
	for _, o := range got.told {
		if value.Right(o.Value) != api.OK || o.Channel < 0 || o.Channel >= len(d.Catalog().Channels()) {
			t.Errorf("%+v was told", o)
		}
	}
}

// P16.4: with more fuel a run that did not end for want of it ends the same; one that did had told a beginning of what it tells then.
func TestMoreFuel(t *testing.T) {
	pairs := map[string]int{}
	for seed := range 700 {
		m := makerOf(t, 50000+seed)
		a := ask{m.db(), compiled(t, m.catalog, m.script()), m.inputs(), 0}
		var runs []answer
		for _, fuel := range []int{-5, 0, 1, 2, 3, 4, 5, 6, 7, 8, 9, 10, 12, 14, 17, 20, 25, 30, 40, 60, 90, 200, 1000, api.MaxFuel, api.MaxFuel + 1} {
			a.fuel = fuel
			runs = append(runs, a.run())
		}
		for i, less := range runs {
			for _, more := range runs[i+1:] {
				switch {
				case less.err != api.ErrFuel && !less.same(more):
					t.Errorf("seed %d: %s with less, %s with more", seed, less.text(a.db), more.text(a.db))
				case len(less.told) > len(more.told) || !slices.Equal(less.told, more.told[:len(less.told)]):
					t.Errorf("seed %d: %s is no beginning of %s", seed, less.text(a.db), more.text(a.db))
				}
				pairs[errNames[less.err]+", "+errNames[more.err]]++
			}
		}
		if t.Failed() {
			t.FailNow()
		}
	}
	enough(t, pairs, 1000, "OK, OK", "ErrFuel, OK", "ErrFuel, ErrFuel", "ErrFuel, ErrRaise", "ErrRaise, ErrRaise", "ErrFuel, ErrRows", "ErrRows, ErrRows")
}

// P16.5: of what is done between begin and rollback nothing stays in tables; what comes ahead, and behind, does.
func TestNothingStays(t *testing.T) {
	ends := map[string]int{}
	for seed := range 1800 {
		m := makerOf(t, 90000+seed)
		m.without = one(api.StCommit, api.StRollback)
		between := m.script() // its procedures neither commit nor take back, so that those of what comes ahead may be the same
		m.vars = between.Vars
		ahead, behind := m.block(2), m.block(2)
		body := one(api.Stmt{Kind: api.StTry, Body: between.Body, Else: one(api.Stmt{Kind: api.StSkip})})
		kinds := func(l ...int) []api.Stmt {
			return numbered(len(l), func(i int) api.Stmt { return api.Stmt{Kind: l[i]} })
		}
		d := m.db()
		run := func(parts ...[]api.Stmt) answer {
			s := api.Script{Vars: between.Vars, Procs: between.Procs, Body: slices.Concat(parts...)}
			return watched(t, ask{d, compiled(t, m.catalog, s), one(1, 2, 3), 2000})
		}
		before := run(ahead)
		if before.err != api.OK {
			continue
		}
		whole := run(ahead, kinds(api.StCommit, api.StBegin), body, kinds(api.StRollback))
		if t.Failed() {
			t.Fatalf("seed %d", seed)
		}
		if whole.err != api.OK { // the rollback was not come to
			ends[errNames[whole.err]]++
			continue
		}
		if !whole.tables.Same(before.tables) {
			t.Fatalf("seed %d: %s, not %s", seed, whole.text(d), before.text(d))
		}
		if changed := run(ahead, body); !changed.tables.Same(before.tables) {
			ends["changed"]++
		}
		twice := run(ahead, kinds(api.StCommit, api.StBegin), body, kinds(api.StRollback, api.StBegin, api.StBegin), behind, kinds(api.StRollback, api.StRollback))
		if twice.err == api.OK && !twice.tables.Same(before.tables) {
			t.Fatalf("seed %d: %s, not %s", seed, twice.text(d), before.text(d))
		}
		ends["twice "+errNames[twice.err]]++
	}
	enough(t, ends, 100, "changed", "twice OK")
}

// Each kind of statement alone, of those that were made: what it takes of the fuel is one step at the least, and with none nothing is done.
func TestNoFuel(t *testing.T) {
	kinds := map[string]int{}
	for seed := range 1500 {
		m := makerOf(t, 120000+seed)
		p := compiled(t, m.catalog, m.script())
		own := &p.Procs[len(p.Procs)-1]
		for _, op := range own.Body {
			own.Body = one(op)
			d := m.db()
			got := watched(t, ask{d, p, m.inputs(), 0})
			check(t, kindNames[op.Kind], got.text(d), "ErrFuel")
			kinds[kindNames[op.Kind]]++
		}
		if t.Failed() {
			t.Fatalf("seed %d", seed)
		}
	}
	enough(t, kinds, 20, kindNames[1:]...)
}

// What a script does itself, and a procedure of the same statements that a script calls, tell the same, with one step more; but that may be one call too many.
func TestCalledOrNot(t *testing.T) {
	ends := map[string]int{}
	for seed := range 1500 {
		m := makerOf(t, 150000+seed)
		s := m.script()
		d, inputs := m.db(), m.inputs()
		plain := watched(t, ask{d, compiled(t, m.catalog, s), inputs, 300})
		in := api.Script{Procs: append(slices.Clone(s.Procs), api.Proc{Name: "all_of_it", Vars: s.Vars, Body: s.Body}), Body: one(api.Stmt{Kind: api.StCall, Table: "all_of_it"})}
		p, _, err := script.Compile(m.catalog, in)
		check(t, seed, err, api.OK)
		got := watched(t, ask{d, p, inputs, 301})
		ends[errNames[plain.err]]++
		if plain.err != api.ErrFuel && !got.same(plain) && got.err != api.ErrFuel {
			t.Fatalf("seed %d: %s, and in a procedure %s", seed, plain.text(d), got.text(d))
		}
		if plain.err == api.OK && got.err == api.OK {
			ends["both"]++
		}
	}
	enough(t, ends, 300, "OK", "both")
}
