package erase_test

import (
	"cmp"
	"reflect"
	"slices"
	"testing"

	"cordon/api"
	"cordon/erase"
	"cordon/schema"
)

// piece is the memory of a list, with the room behind it.
type piece struct{ from, to uintptr }

func pieces(v reflect.Value) []piece {
	var out []piece
	switch v.Kind() {
	case reflect.Struct:
		for i := range v.NumField() {
			out = append(out, pieces(v.Field(i))...)
		}
	case reflect.Slice:
		if v.Cap() > 0 {
			out = append(out, piece{v.Pointer(), v.Pointer() + uintptr(v.Cap())*v.Type().Elem().Size()})
		}
		for i := range v.Len() {
			out = append(out, pieces(v.Index(i))...)
		}
	}
	return out
}

// ownMemory tells whether no two lists in all that is handed to it share memory.
func ownMemory(all ...any) bool {
	var of []piece
	for _, x := range all {
		of = append(of, pieces(reflect.ValueOf(x))...)
	}
	slices.SortFunc(of, func(a, b piece) int { return cmp.Compare(a.from, b.from) })
	for i := range of {
		if i > 0 && of[i-1].to > of[i].from {
			return false
		}
	}
	return true
}

// spoil changes all members of the lists of views where they stand, with the room behind them.
func spoil(views []api.View) {
	for _, v := range views[:cap(views)] {
		for i := range v.Cols[:cap(v.Cols)] {
			v.Cols[:cap(v.Cols)][i] = !v.Cols[:cap(v.Cols)][i]
		}
		for _, row := range v.Rows[:cap(v.Rows)] {
			for i := range row[:cap(row)] {
				row[:cap(row)][i] = api.Value{Type: 9, N: 9, S: "spoilt"}
			}
		}
		clear(v.Rows[:cap(v.Rows)])
	}
	clear(views[:cap(views)])
}

// catalogTold is all that a catalog is asked for.
func catalogTold(c *schema.Catalog) []any {
	return one[any](c.Tables(), c.Channels(), c.Principals(), c.Limit(), c.Lattice().Levels())
}

// Rule 3: what is shown is the caller's own, and the store stays as it was, however that is changed.
func TestShowOwn(t *testing.T) {
	for _, c := range ours() {
		d, was := ourStore(c), catalogTold(c)
		rows := storeTold(d)
		for level := -1; level < 5; level++ {
			views, again := erase.Show(d, level), erase.Show(d, level)
			told := viewsTold(views)
			checkIs(t, "memory of its own", ownMemory(views, again), true)
			spoil(views)
			check(t, "the store", storeTold(d), rows)
			check(t, "another one", viewsTold(again), told)
			check(t, "anew", showTold(d, level), told)
			changes(d)
			check(t, "when the store is changed", viewsTold(again), told)
			d = ourStore(c)
		}
		checkIs(t, "the catalog", reflect.DeepEqual(catalogTold(c), was), true)
	}
}

// Rules 3 and 6: no call changes a store; each answers the same again, whatever is asked between.
func TestNothingChanged(t *testing.T) {
	for _, c := range ours() {
		d, o := ourStore(c), storeOf(c, split(ourOther)...)
		l := outsOf(c, "cl 1; ca 2; ch 3")
		wasD, wasO, was := storeTold(d), storeTold(o), catalogTold(c)
		type answers struct {
			views, mixed, back, outs string
			same                     bool
		}
		all := func(level int) answers {
			return answers{showTold(d, level), storeTold(erase.Mix(d, o, level)), storeTold(erase.Mix(o, d, level)), outsTold(c, erase.Outs(c, l, level)), erase.Same(d, o, level)}
		}
		first := numbered(7, func(i int) answers { return all(i - 1) })
		for i := len(first) - 1; i >= 0; i-- {
			if again := all(i - 1); again != first[i] {
				t.Errorf("%v, not %v", again, first[i])
			}
		}
		check(t, "d", storeTold(d), wasD)
		check(t, "o", storeTold(o), wasO)
		checkIs(t, "d and o themselves", d.Same(ourStore(c)) && o.Same(storeOf(c, split(ourOther)...)), true)
		checkIs(t, "the catalog", reflect.DeepEqual(catalogTold(c), was), true)
	}
}

// Rule 3: what was told is not changed, and what is seen of it is the caller's own, also if all of it is seen.
func TestOutsOwn(t *testing.T) {
	for _, c := range ours() {
		for _, told := range []string{"cl 1; ca 2; cb 3; ch 4", "cl 1; cl 2", "ch 1", "cb 1; cl 2"} {
			for level := -1; level < 5; level++ {
				l := append(outsOf(c, told), api.Out{Channel: 1, Value: val("'room'")})
				room := l[len(l)-1:]
				l = l[:len(l)-1]
				was := slices.Clone(l)
				got, again := erase.Outs(c, l, level), erase.Outs(c, l, level)
				seen := outsTold(c, got)
				checkIs(t, "memory of its own", ownMemory(l, got) && ownMemory(l, again) && ownMemory(got, again), true)
				checkIs(t, "what was told", slices.Equal(l, was) && room[0].Value == val("'room'"), true)
				for i := range l {
					l[i] = api.Out{Channel: 0, Value: val("9")}
				}
				check(t, "when that is changed", outsTold(c, got), seen)
				for i := range got[:cap(got)] {
					got[:cap(got)][i] = api.Out{Channel: 3, Value: val("8")}
				}
				check(t, "another one", outsTold(c, again), seen)
				check(t, "anew", outsTold(c, erase.Outs(c, was, level)), seen)
			}
		}
	}
}
