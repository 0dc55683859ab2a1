package interp_test

import (
	"fmt"
	"math"
	"slices"
	"testing"

	"cordon/api"
	"cordon/interp"
	"cordon/schema"
	"cordon/store"
)

func TestSignatures(t *testing.T) {
	var _ func(d *store.DB, p api.Program, inputs []int, fuel int) (*store.DB, []api.Out, api.Errno) = interp.Run
	var _ func(e api.Errno) bool = interp.Catches
}

// The chapter's example.
func TestExample(t *testing.T) {
	runs(t, "var x int; try { set x = 1 / 0; } catch { print out 2; }", "2 OK")
}

// P16.1: no store, one that no call made, no procedures, and both at once: no tables, and nothing told.
func TestNil(t *testing.T) {
	none := (*schema.Catalog)(nil)
	p := programOf(t, ourCatalog(), "print out 1; delete from t;")
	for i, a := range []ask{
		{nil, p, nil, 100}, {&store.DB{}, p, nil, 100}, {new(store.DB), p, one(1, 2), 0}, {store.New(none), p, nil, 100}, {store.New(&schema.Catalog{}), p, nil, -1},
		{ours(), api.Program{}, nil, 100}, {ours(), api.Program{Procs: []api.Code{}}, one(1), api.MaxFuel}, {ours(), api.Program{Procs: make([]api.Code, 0, 3)}, nil, 0},
		{nil, api.Program{}, nil, 100}, {&store.DB{}, api.Program{}, nil, 100}, {nil, api.Program{}, nil, math.MinInt},
	} {
		got := a.run()
		if got.err != api.ErrNil || got.tables != nil || len(got.told) != 0 {
			t.Errorf("%d: %+v", i, got)
		}
		if a.db.Catalog() != nil && !a.db.Same(ours()) {
			t.Errorf("%d: the store is changed", i)
		}
	}
}

// P16.1: the last procedure's statements, whatever others there are; a script of no statements tells nothing.
func TestOrdinary(t *testing.T) {
	runs(t,
		"", "OK",
		"proc p() { print out 1; delete from t; }", "OK",
		"proc p() { print out 1; } print out 2;", "2 OK",
		"proc p() { print out 1; } proc q() { print out 2; } print out 3; call q(); call p(); print out 4;", "3 2 1 4 OK",
		"print out 1; print log 'a'; print err true; print out null; print log 2;", "1 1:'a' 2:true null 1:2 OK",
		"var x int; var y int; set x = 2; set y = :x * :x; set x = :y + :x; print out :x; print log :y;", "6 1:4 OK",
		// the sum of a table's numbers, by hand and by a query
		"var x int; var s int; set s = 0; for x in select b as x from t where b is not null { set s = :s + :x; } print out :s; print out (select sum(b) as s from t);", "12 12 OK",
		// how often a number can be halved
		"proc halve(n int) { if :n > 1 { print out :n; call halve(:n / 2); } else { print log :n; } } call halve(20);", "20 10 5 2 1:1 OK",
		// rows that stand in no order, in order
		"var a int; insert into t values (0, 9); for a in select a as a from t order by a { print out :a; }", "0 1 2 3 OK t (1 5) (2 null) (3 7) (0 9)",
		// inputs are added till there are none
		"var x int; var n int; set n = 0; input x; while :x is not null { set n = :n + 1; insert into e values (:x, 'in'); input x; } print out :n;", "0 OK",
	)
	d := ours()
	p := programOf(t, ourCatalog(), "var x int; var n int; set n = 0; input x; while :x is not null { set n = :n + 1; insert into e values (:x, 'in'); input x; } print out :n;")
	got := watched(t, ask{d, p, one(4, -5, 4), ourFuel})
	check(t, "inputs", got.text(d), "3 OK e (4 'in') (-5 'in') (4 'in')")
}

// A run begins with the tables as they are, so that a second one goes on where the first one ended, or begins anew.
func TestOneBehindTheOther(t *testing.T) {
	p := programOf(t, ourCatalog(), "update o set x = x + 1; print out (select x as x from o);")
	d, want := ours(), 8
	for range 4 {
		check(t, "anew", watched(t, ask{ours(), p, nil, 10}).text(ours()), "9 OK o (9)")
		want++
		got := watched(t, ask{d, p, nil, 10})
		check(t, "on", got.text(ours()), fmt.Sprintf("%d OK o (%d)", want, want))
		d = got.tables
	}
}

// The catalog of a store is that of its copies, so that programs of its catalog may run over them; tables of another catalog are others.
func TestOtherCatalogs(t *testing.T) {
	small := catalogOf("levels low; channel c low; table x rows low (n int low);")
	d := loaded(small, one(row(1), row(2)))
	got := watched(t, ask{d, programOf(t, small, "var n int; for n in select n as n from x { print c :n; } delete from x where n = 1;"), nil, 100})
	check(t, "small", got.text(d), "1 2 OK x (2)")
	none := catalogOf("levels low; channel c low;")
	got = watched(t, ask{store.New(none), programOf(t, none, "begin; print c 1; rollback; print c 2;"), nil, 100})
	check(t, "none", got.text(store.New(none)), "1 2 OK")
}

// P16.2: of every error, of OK, and of numbers that are none.
func TestCatches(t *testing.T) {
	caught := one(api.ErrOver, api.ErrZero, api.ErrKey, api.ErrRaise, api.ErrMany, api.ErrNull, api.ErrSingle)
	not := one(api.OK, api.ErrNil, api.ErrArg, api.ErrType, api.ErrDeep, api.ErrForm, api.ErrName, api.ErrLevel, api.ErrRows, api.ErrFuel, api.ErrFlow, api.ErrShape)
	check(t, "all errors", len(caught)+len(not), len(errNames))
	for _, e := range caught {
		check(t, errNames[e], interp.Catches(e), true)
	}
	for _, e := range append(not, -1, 19, 20, 1000, math.MaxInt, math.MinInt) {
		check(t, int(e), interp.Catches(e), false)
	}
	for e := api.Errno(-300); e < 300; e++ {
		check(t, int(e), interp.Catches(e), slices.Contains(caught, e))
	}
}
