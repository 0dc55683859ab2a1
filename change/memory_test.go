package change_test

import (
	"reflect"
	"testing"

	"cordon/api"
	"cordon/change"
	"cordon/store"
)

// copied is a copy of what a call is handed that shares nothing with it, with as much room behind each list.
func copied(c call) call { return copyCall(c, 0) }

// roomy is a copy with more room behind each list, so that what is put there would be seen.
func roomy(c call) call { return copyCall(c, 3) }

func copyCall(c call, room int) call {
	c.vars, c.cols, c.nodes = listOf(c.vars, room), listOf(c.cols, room), listOf(c.nodes, room)
	c.plan, c.where = copyOf(reflect.ValueOf(c.plan), room).Interface().(api.Plan), listOf(c.where, room)
	return c
}

func listOf[T any](l []T, room int) []T { return copyOf(reflect.ValueOf(l), room).Interface().([]T) }

func copyOf(v reflect.Value, room int) reflect.Value {
	out := reflect.New(v.Type()).Elem()
	out.Set(v)
	switch v.Kind() {
	case reflect.Slice:
		whole := v.Slice(0, v.Cap())
		l := reflect.MakeSlice(v.Type(), whole.Len()+room, whole.Len()+room)
		for i := range whole.Len() {
			l.Index(i).Set(copyOf(whole.Index(i), room))
		}
		out.Set(l.Slice(0, v.Len()))
	case reflect.Struct:
		for i := range v.NumField() {
			out.Field(i).Set(copyOf(v.Field(i), room))
		}
	}
	return out
}

// same tells whether two calls are handed the same, with what stands in the room behind the lists.
func same(a, b call) bool {
	parts := func(c call) []any { return []any{c.vars, c.cols, c.nodes, c.plan, c.where} }
	for i, p := range parts(a) {
		if !sameOf(reflect.ValueOf(p), reflect.ValueOf(parts(b)[i])) {
			return false
		}
	}
	return true
}

func sameOf(a, b reflect.Value) bool {
	switch a.Kind() {
	case reflect.Slice:
		if a.Len() != b.Len() || a.Cap() != b.Cap() {
			return false
		}
		a, b = a.Slice(0, a.Cap()), b.Slice(0, b.Cap())
		for i := range a.Len() {
			if !sameOf(a.Index(i), b.Index(i)) {
				return false
			}
		}
		return true
	case reflect.Struct:
		for i := range a.NumField() {
			if !sameOf(a.Field(i), b.Field(i)) {
				return false
			}
		}
		return true
	}
	return a.Interface() == b.Interface()
}

// spoil changes all that a call was handed where it stands, with the room behind it.
func spoil(c call) {
	for _, p := range []any{c.vars, c.cols, c.nodes, []api.Plan{c.plan}, c.where} {
		spoilOf(reflect.ValueOf(p))
	}
}

func spoilOf(v reflect.Value) {
	switch v.Kind() {
	case reflect.Slice:
		v = v.Slice(0, v.Cap())
		for i := range v.Len() {
			spoilOf(v.Index(i))
		}
	case reflect.Struct:
		for i := range v.NumField() {
			spoilOf(v.Field(i))
		}
	case reflect.Int:
		v.SetInt(v.Int() + 99)
	case reflect.String:
		v.SetString(v.String() + " spoilt")
	}
}

// Rules 3 and 7: nothing of what a call is handed stands in the store, and what the store hands out is the caller's own: it may be changed, and the next call finds the rows as they were.
func TestStoreIsApart(t *testing.T) {
	statements := []string{
		"insert into p values (1, :s)", "insert into p select a as a, b as b from p where b = 'x'", "update h set n = n + 1, s = :s", "update h set n = n + 1", "delete from q where a = 2", "update q set a = a + 1 where b is null",
		"insert into h values (9, true, 'n', null)", "delete from h where k = 9", "insert into t select a + 5 as a, b as b from t",
	}
	d, plain := ours(), ours()
	for _, text := range statements {
		for _, of := range tablesOf(d) {
			for _, r := range of {
				for i := range r {
					r[i] = api.Value{Type: 9, N: 9, S: "spoilt"}
				}
			}
		}
		check(t, text, watched(t, d, callOf(t, text)), answerOf(callOf(t, text).do(plain)))
	}
	if !d.Same(plain) {
		t.Error("the rows are other ones")
	}
	check(t, "h", told(d.Rows(tableH)), "(1 false 'v' 12) (1 true 'v' 2) (2 null 'v' null) (3 true 'v' 32)")
	check(t, "p", told(d.Rows(tableP)), "(0 'x') (null 'y') (0 'x') (2 '') (1 'v')")
}

// One list may be handed in many times, changed in between: each time it is another one.
func TestOneListManyTimes(t *testing.T) {
	d := ours()
	nodes, values := one(constant(1), constant(nil)), one(constant(1))
	where := one(api.Node{Kind: api.ExIs, Kids: one(at(1))})
	for i := range 6 {
		nodes[0].N, values[0].N = 10+i, i
		check(t, i, answerOf(0, change.Insert(d, nil, tableE, nodes)), "0")
		check(t, i, answerOf(change.Update(d, nil, tableE, one(1), values, where)), "1")
	}
	check(t, "rows", told(d.Rows(tableE)), "(10 0) (11 1) (12 2) (13 3) (14 4) (15 5)")
}

// A list without members may be nil or empty.
func TestEmptyOrNil(t *testing.T) {
	for _, c := range []call{
		{kind: api.StDelete, table: tableP}, {kind: api.StUpdate, table: tableP}, {kind: api.StUpdate, table: tableE}, {kind: api.StInsert, table: tableP}, {kind: api.StInsertQ, table: tableP, plan: api.Plan{Kind: api.PlScan, N: tableP}},
	} {
		full := c
		full.vars, full.cols, full.nodes, full.where = []api.Bound{}, []int{}, []api.Node{}, []api.Node{}
		full.plan.Kids, full.plan.E, full.plan.Keys, full.plan.Aggs, full.plan.Desc = []api.Plan{}, []api.Node{}, []int{}, []api.Gather{}, []bool{}
		a, b := ours(), ours()
		check(t, c, watched(t, a, c), watched(t, b, full))
		if !a.Same(b) {
			t.Errorf("%+v: other rows", c)
		}
	}
}

// Rules 3 and 7, Fixed: its list is its own, and the relation stays as it was.
func TestFixedIsApart(t *testing.T) {
	for _, key := range [][]int{{1, 0}, {0, 1}, {0, 1, 2, 3}} {
		r := api.Relation{Name: "t", Key: append(make([]int, 0, 9), key...), Cols: make([]api.Field, 4), Hide: -1}
		for i := range r.Cols {
			r.Cols[i].Name = string(rune('a' + i))
		}
		was := copyOf(reflect.ValueOf(r), 0)
		l := change.Fixed(r)
		for i := range l[:cap(l)] {
			l[:cap(l)][i] = 77
		}
		if !sameOf(reflect.ValueOf(r), was) {
			t.Errorf("%v: the relation is changed", key)
		}
		again := change.Fixed(r)
		if len(again) != len(key) || len(again) > 0 && again[0] == 77 {
			t.Errorf("%v: %v", key, again)
		}
	}
}

func TestSignatures(t *testing.T) {
	var _ func(d *store.DB, vars []api.Bound, t int, nodes []api.Node) api.Errno = change.Insert
	var _ func(d *store.DB, vars []api.Bound, t int, p api.Plan) api.Errno = change.InsertRows
	var _ func(d *store.DB, vars []api.Bound, t int, cols []int, nodes []api.Node, where []api.Node) (int, api.Errno) = change.Update
	var _ func(d *store.DB, vars []api.Bound, t int, where []api.Node) (int, api.Errno) = change.Delete
	var _ func(r api.Relation) []int = change.Fixed
}
