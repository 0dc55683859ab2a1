package derive_test

import (
	"math"
	"reflect"
	"testing"

	"cordon/api"
	"cordon/derive"
)

// A script with procedures, variables, used and not, and statements of each kind, in blocks of each kind.
const wholeScript = "var unused int; proc p(n int, m int) { var o int; set o = :n; } proc q() { raise; } proc r() { } proc s(never int) { var neither int; } | " +
	"set l = 1; if :va > 0 { skip; } else { skip; skip; } while true { skip; if true { skip; } } for l in select i as x from t { skip; } try { raise; } catch { skip; } if true { } " +
	"print ca :va; insert into n values (1, 2); insert into n select 1 as x, 2 as y; update n set x = 1; delete from n; call p(:va, :vb); begin; commit; rollback; input l; try { try { call q(); } catch { skip; } } catch { raise; }"

// lists are all lists in a value, wherever they stand.
func lists(x any) []reflect.Value {
	var out []reflect.Value
	walked(reflect.ValueOf(x).Elem(), func(v reflect.Value) {
		if v.Kind() == reflect.Slice {
			out = append(out, v)
		}
	})
	return out
}

// Each list of a proof, too short and too long by one, and without a member: variables, Entry, Raise, Can, rules, rules in blocks, and blocks at rules whose statements have none.
func TestLists(t *testing.T) {
	for _, c := range benchOf("table n rows low (x int null low, y int null low);") {
		m := read(t, c, withPreamble(wholeScript))
		x := madeOf(t, c, m.p)
		n := len(lists(&x))
		for i := range n {
			y := copied(x)
			l := lists(&y)[i]
			more := reflect.New(l.Type().Elem()).Elem()
			for _, other := range lists(&x) { // what is right elsewhere
				if other.Type() == l.Type() && other.Len() > 0 {
					more = other.Index(other.Len() - 1)
				}
			}
			for _, z := range one(copyOf(more), reflect.Zero(more.Type())) {
				y := copied(x)
				l := lists(&y)[i]
				l.Set(reflect.Append(l, z))
				check(t, "too long", derive.Verify(c, m.p, y), false)
				check(t, "too long, a second way", modelOf(c, m).takes(y), false)
			}
			if l.Len() == 0 {
				l.Set(reflect.MakeSlice(l.Type(), 0, 2))
				check(t, "empty", derive.Verify(c, m.p, y), true)
				l.SetZero()
				check(t, "nil", derive.Verify(c, m.p, y), true)
				continue
			}
			l.SetLen(l.Len() - 1)
			check(t, "too short", derive.Verify(c, m.p, y), false)
			check(t, "too short, a second way", modelOf(c, m).takes(y), false)
			l.SetZero()
			check(t, "without a list", derive.Verify(c, m.p, y), false)
		}
		check(t, "lists", n > 70, true)
	}
}

// Each level of a proof, one that is none: nothing else counts then, also where that level tells nothing.
func TestNoLevels(t *testing.T) {
	for _, c := range append(benchOf("table n rows low (x int null low, y int null low);"), catalogOf("levels low; channel ca low; table t rows low (i int low, ia int low, ib int low, ih int low); table n rows low (x int low, y int low);")) {
		p := programOf(t, c, withPreamble(wholeScript))
		x := madeOf(t, c, p)
		for _, s := range spotsOf(p, &x) {
			if s.level == nil {
				continue
			}
			was := *s.level
			for _, level := range one(-1, -2, math.MinInt, len(c.Lattice().Levels()), len(c.Lattice().Levels())+1, api.MaxLevels, 64, math.MaxInt) {
				*s.level = level
				check(t, s.name, derive.Verify(c, p, x), false)
			}
			*s.level = was
		}
		check(t, "again", derive.Verify(c, p, x), true)
	}
}

// Rules in the wrong block, in the wrong order, and the proofs of procedures in another one.
func TestWrongPlaces(t *testing.T) {
	for _, c := range benchOf("") {
		p := programOf(t, c, withPreamble("proc p(n int) { raise; } proc q(n int) { skip; } | if :va > 0 { print ca 1; } else { skip; skip; } print out 1; try { call p(1); } catch { skip; }"))
		x := madeOf(t, c, p)
		for name, change := range map[string]func(y *api.Proof){
			"blocks": func(y *api.Proof) { y.Procs[2][1].Body, y.Procs[2][1].Else = y.Procs[2][1].Else, y.Procs[2][1].Body },
			"block":  func(y *api.Proof) { y.Procs[2][2].Body, y.Procs[2][1].Body = y.Procs[2][1].Body, nil },
			"to Body": func(y *api.Proof) {
				y.Procs[2][3].Body, y.Procs[2][3].Else = append(y.Procs[2][3].Body, y.Procs[2][3].Else...), nil
			},
			"order":      func(y *api.Proof) { y.Procs[2][1], y.Procs[2][2] = y.Procs[2][2], y.Procs[2][1] },
			"out":        func(y *api.Proof) { y.Procs[2] = append(y.Procs[2], y.Procs[2][1].Body...); y.Procs[2][1].Body = nil },
			"procedures": func(y *api.Proof) { y.Procs[0], y.Procs[1] = y.Procs[1], y.Procs[0] },
			"last first": func(y *api.Proof) { y.Procs[0], y.Procs[2] = y.Procs[2], y.Procs[0] },
			"variables":  func(y *api.Proof) { y.Vars[0], y.Vars[2] = y.Vars[2], y.Vars[0] },
			"can":        func(y *api.Proof) { y.Can[0], y.Can[1] = y.Can[1], y.Can[0] },
			"round": func(y *api.Proof) { // a list that is in itself
				y.Procs[2][2].Body = y.Procs[2]
			},
			"round in a block": func(y *api.Proof) {
				y.Procs[2][1].Body[0].Body = y.Procs[2][1].Body
			},
		} {
			y := copied(x)
			change(&y)
			check(t, name, derive.Verify(c, p, y), false)
		}
	}
}
