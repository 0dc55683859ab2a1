package engine_test

import (
	"cmp"
	"reflect"
	"slices"
	"testing"

	"cordon/algebra"
	"cordon/api"
	"cordon/engine"
	"cordon/store"
)

// copied is a copy that shares nothing with what it is of, with as much room behind each list.
func copied[T any](x T) T { return copyOf(reflect.ValueOf(x), 0).Interface().(T) }

// roomy is a copy with more room behind each list, so that what is put there would be seen.
func roomy[T any](x T) T { return copyOf(reflect.ValueOf(x), 3).Interface().(T) }

func copyOf(v reflect.Value, room int) reflect.Value {
	out := reflect.New(v.Type()).Elem()
	out.Set(v)
	switch v.Kind() {
	case reflect.Slice:
		whole := v.Slice(0, v.Cap())
		l := reflect.MakeSlice(v.Type(), whole.Len()+room, whole.Len()+room)
		for i := range whole.Len() {
			l.Index(i).Set(copyOf(whole.Index(i), room))
		}
		out.Set(l.Slice(0, v.Len()))
	case reflect.Struct:
		for i := range v.NumField() {
			out.Field(i).Set(copyOf(v.Field(i), room))
		}
	}
	return out
}

// same tells whether two are the same, with what stands in the room behind their lists.
func same(a, b any) bool { return sameOf(reflect.ValueOf(a), reflect.ValueOf(b)) }

func sameOf(a, b reflect.Value) bool {
	switch a.Kind() {
	case reflect.Slice:
		if a.Len() != b.Len() || a.Cap() != b.Cap() {
			return false
		}
		a, b = a.Slice(0, a.Cap()), b.Slice(0, b.Cap())
		for i := range a.Len() {
			if !sameOf(a.Index(i), b.Index(i)) {
				return false
			}
		}
		return true
	case reflect.Struct:
		for i := range a.NumField() {
			if !sameOf(a.Field(i), b.Field(i)) {
				return false
			}
		}
		return true
	}
	return a.Interface() == b.Interface()
}

// piece is the memory of a list, with the room behind it.
type piece struct{ from, to uintptr }

func pieces(v reflect.Value) []piece {
	var out []piece
	switch v.Kind() {
	case reflect.Struct:
		for i := range v.NumField() {
			out = append(out, pieces(v.Field(i))...)
		}
	case reflect.Slice:
		if v.Cap() > 0 {
			out = append(out, piece{v.Pointer(), v.Pointer() + uintptr(v.Cap())*v.Type().Elem().Size()})
		}
		for i := range v.Len() {
			out = append(out, pieces(v.Index(i))...)
		}
	}
	return out
}

// ownMemory tells whether no two lists in all that is handed to it share memory.
func ownMemory(all ...any) bool {
	var of []piece
	for _, x := range all {
		of = append(of, pieces(reflect.ValueOf(x))...)
	}
	slices.SortFunc(of, func(a, b piece) int { return cmp.Compare(a.from, b.from) })
	for i := range of {
		if i > 0 && of[i-1].to > of[i].from {
			return false
		}
	}
	return true
}

// spoil changes all values of rows where they stand, with the room behind them.
func spoil(l []rowOf) {
	for i, r := range l[:cap(l)] {
		for j := range r[:cap(r)] {
			r[:cap(r)][j] = api.Value{Type: 9, N: 9, S: "spoilt"}
		}
		l[:cap(l)][i] = nil
	}
}

// standsAlone does a node and a plan, twice each, and looks at what is changed, kept and shared; it answers how the plan ended.
func standsAlone(t *testing.T, d *store.DB, vars []api.Bound, r rowOf, n api.Node, p api.Plan) string {
	t.Helper()
	was := d.Copy()
	vars, r, n, p = roomy(vars), roomy(r), roomy(n), roomy(p)
	wasVars, wasR, wasN, wasP := copied(vars), copied(r), copied(n), copied(p)
	v, errV := engine.Value(d, vars, r, n)
	l, errL := engine.Rows(d, vars, p)
	toldV, toldL := valueAnswer(v, errV), rowsAnswer(l, errL)
	if errV != api.OK && v != (api.Value{}) || errL != api.OK && len(l) > 0 {
		t.Errorf("something beside an error: %s, %s", toldV, toldL)
	}
	if !ownMemory(l) {
		t.Error("lists of one answer share memory")
	}
	var stored []any
	for i := range d.Catalog().Tables() {
		stored = append(stored, d.Rows(i))
	}
	if !ownMemory(append(stored, l, vars, r, n, p)...) {
		t.Error("memory is shared with what was handed in")
	}
	spoil(l)
	if !same(vars, wasVars) || !same(r, wasR) || !same(n, wasN) || !same(p, wasP) {
		t.Error("what was handed in is changed")
	}
	if !d.Same(was) {
		t.Error("the store is changed")
	}
	check(t, "a node again", valueAnswer(engine.Value(d, vars, r, n)), toldV)
	check(t, "a plan again", rowsAnswer(engine.Rows(d, vars, p)), toldL)
	check(t, "a plan of a copy", rowsAnswer(engine.Rows(was, wasVars, wasP)), toldL)
	return ending(toldL)
}

// Rules 3 and 6, P2, of queries of each kind.
func TestStandAlone(t *testing.T) {
	n := nodeOf(t, "a in (select a as x from t) and exists (select a as x from u)")
	for _, text := range []string{
		"select a as a, b as b, s as s from t", "select a as a from t visible where a > 1", "select t.a as x, u.c as y from t join u on true", "select t.a as x, u.c as y from t left join u on t.a = u.a",
		"select a as x, count(*) as n from t group by a", "select distinct a as x from t order by x desc limit 2", "select a as x from t union all select a as x from t", "select a as x from t union select c as x from u",
		"select a as x from t except select c as x from u", "select a as x from t intersect select a as x from u", "select x as x from (select a as x from t) as q where x in (select a as x from t)", "select 1 / a as x from u", "select a as x from e", "select 1 as x",
	} {
		p := planOf(t, ourCatalog(), text)
		standsAlone(t, ours(), ourBound(), ourRow(), n, p)
		for len(p.Kids) > 0 { // also where the plan within is not projected
			p = p.Kids[0]
			standsAlone(t, ours(), ourBound(), ourRow(), n, p)
		}
	}
	// Rows of a list that is put behind others without values, and of one that is asked for twice.
	nothing := told(row(), row(), row())
	for _, p := range []api.Plan{
		pair(api.PlJoin, scan(0), nothing, constant(true)), pair(api.PlJoin, nothing, scan(0), constant(true)), pair(api.PlJoin, nothing, nothing, constant(true)), pair(api.PlLeft, scan(0), nothing, constant(false)),
		pair(api.PlUnionAll, pair(api.PlJoin, scan(2), nothing, constant(true)), scan(2)), above(api.PlProject, scan(0)), above(api.PlLimit, scan(0)),
		{Kind: api.PlGroup, Kids: one(scan(0)), Keys: one(0, 1, 2)}, {Kind: api.PlGroup, Kids: one(scan(0)), Keys: one(0), Aggs: one(api.Gather{Fn: "count"}, api.Gather{Fn: "max", E: one(at(2))})},
	} {
		standsAlone(t, ours(), ourBound(), ourRow(), n, p)
	}
}

// The same, of queries and expressions made at random.
func TestMadeStandAlone(t *testing.T) {
	ends, places := map[string]int{}, madePlaces()
	for seed := range 3000 {
		m := makerOf(160000 + seed)
		_, p, ok := made(m, 1+m.Intn(3))
		n, err := algebra.Node(madeCatalog(), madeVars(), places, m.expr(env{all: places, named: places}, m.kind(), 1+m.Intn(4)))
		if !ok || err != api.OK {
			continue
		}
		d, w := m.both()
		r := numbered(len(places), func(i int) api.Value { return m.value(places[i].Type) })
		ends[standsAlone(t, d, w.vars, r, n, p)]++
		if t.Failed() {
			t.Fatalf("seed %d", seed)
		}
	}
	enough(t, ends, 300, "rows", "none")
}

// Lists without members may be nil or empty.
func TestEmptyOrNil(t *testing.T) {
	d := ours()
	for _, vars := range [][]api.Bound{nil, {}} {
		for _, r := range []rowOf{nil, {}} {
			check(t, "a node", valueAnswer(engine.Value(d, vars, r, api.Node{Kind: api.ExInt, N: 3, Kids: []api.Node{}, Plans: []api.Plan{}})), "3")
		}
		p := api.Plan{Kind: api.PlScan, N: 2, Kids: []api.Plan{}, E: []api.Node{}, Keys: []int{}, Aggs: []api.Gather{}, Desc: []bool{}, Width: 1}
		check(t, "a plan", rowsAnswer(engine.Rows(d, vars, p)), "(5)")
		p = api.Plan{Kind: api.PlGroup, Kids: one(p), Keys: []int{}, Aggs: one(api.Gather{Fn: "count", E: []api.Node{}}), Width: 1}
		check(t, "a group", rowsAnswer(engine.Rows(d, vars, p)), "(1)")
	}
}

func TestSignatures(t *testing.T) {
	var _ func(d *store.DB, vars []api.Bound, row []api.Value, n api.Node) (api.Value, api.Errno) = engine.Value
	var _ func(d *store.DB, vars []api.Bound, p api.Plan) ([][]api.Value, api.Errno) = engine.Rows
}
