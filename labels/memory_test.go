package labels_test

import (
	"cmp"
	"reflect"
	"slices"
	"testing"

	"cordon/api"
	"cordon/labels"
	"cordon/schema"
)

// copied is a copy that shares nothing with what it is of, with as much room behind each list.
func copied[T any](x T) T { return copyOf(reflect.ValueOf(x), 0).Interface().(T) }

// roomy is a copy with more room behind each list, so that what is put there would be seen.
func roomy[T any](x T) T { return copyOf(reflect.ValueOf(x), 3).Interface().(T) }

func copyOf(v reflect.Value, room int) reflect.Value {
	out := reflect.New(v.Type()).Elem()
	out.Set(v)
	switch v.Kind() {
	case reflect.Slice:
		whole := v.Slice(0, v.Cap())
		l := reflect.MakeSlice(v.Type(), whole.Len()+room, whole.Len()+room)
		for i := range whole.Len() {
			l.Index(i).Set(copyOf(whole.Index(i), room))
		}
		out.Set(l.Slice(0, v.Len()))
	case reflect.Struct:
		for i := range v.NumField() {
			out.Field(i).Set(copyOf(v.Field(i), room))
		}
	}
	return out
}

// same tells whether two are the same, with what stands in the room behind their lists.
func same(a, b any) bool { return sameOf(reflect.ValueOf(a), reflect.ValueOf(b)) }

func sameOf(a, b reflect.Value) bool {
	switch a.Kind() {
	case reflect.Slice:
		if a.Len() != b.Len() || a.Cap() != b.Cap() {
			return false
		}
		a, b = a.Slice(0, a.Cap()), b.Slice(0, b.Cap())
		for i := range a.Len() {
			if !sameOf(a.Index(i), b.Index(i)) {
				return false
			}
		}
		return true
	case reflect.Struct:
		for i := range a.NumField() {
			if !sameOf(a.Field(i), b.Field(i)) {
				return false
			}
		}
		return true
	}
	return a.Interface() == b.Interface()
}

// piece is the memory of a list, with the room behind it.
type piece struct{ from, to uintptr }

func pieces(v reflect.Value) []piece {
	var out []piece
	switch v.Kind() {
	case reflect.Struct:
		for i := range v.NumField() {
			out = append(out, pieces(v.Field(i))...)
		}
	case reflect.Slice:
		if v.Cap() > 0 {
			out = append(out, piece{v.Pointer(), v.Pointer() + uintptr(v.Cap())*v.Type().Elem().Size()})
		}
		for i := range v.Len() {
			out = append(out, pieces(v.Index(i))...)
		}
	}
	return out
}

// ownMemory tells whether no two lists in all that is handed to it share memory.
func ownMemory(all ...any) bool {
	var of []piece
	for _, x := range all {
		of = append(of, pieces(reflect.ValueOf(x))...)
	}
	slices.SortFunc(of, func(a, b piece) int { return cmp.Compare(a.from, b.from) })
	for i := range of {
		if i > 0 && of[i-1].to > of[i].from {
			return false
		}
	}
	return true
}

// spoil changes all members of a list where they stand, with the room behind them.
func spoil(l []int) {
	for i := range l[:cap(l)] {
		l[:cap(l)][i] = 99
	}
}

// standsAlone asks for a mark and a sheet, twice each, and looks at what is changed, kept and shared.
func standsAlone(t *testing.T, w world, n api.Node, p api.Plan) (api.Mark, api.Sheet) {
	t.Helper()
	vars, cols, n, p := roomy(w.vars), roomy(w.cols), roomy(n), roomy(p)
	wasVars, wasCols, wasN, wasP, tables := copied(vars), copied(cols), copied(n), copied(p), w.c.Tables()
	mark, sheet := labels.Node(w.c, vars, cols, n), labels.Plan(w.c, vars, p)
	told := copied(sheet)
	again := labels.Plan(w.c, vars, p)
	if !ownMemory(sheet, again, vars, cols, n, p) {
		t.Error("memory is shared")
	}
	spoil(sheet.Cols)
	spoil(again.Cols)
	if !same(vars, wasVars) || !same(cols, wasCols) || !same(n, wasN) || !same(p, wasP) || !reflect.DeepEqual(w.c.Tables(), tables) {
		t.Error("what was handed in is changed")
	}
	labels.Plan(w.c, nil, api.Plan{Kind: 99, Kids: one(p, p)})
	labels.Node(nil, vars, cols, n)
	check(t, "a node again", markTold(w.c, labels.Node(w.c, vars, cols, n)), markTold(w.c, mark))
	check(t, "a plan again", sheetTold(w.c, labels.Plan(w.c, wasVars, wasP)), sheetTold(w.c, told))
	return mark, told
}

func ourWorld(c *schema.Catalog) world { return world{c: c, vars: ourVars(c), cols: ourCols(c)} }

// Rules 3 and 6, P2, of plans of each kind, also where they are not projected.
func TestStandAlone(t *testing.T) {
	for _, c := range ours() {
		n := nodeOf(t, c, "-ia in (select x as x from u where x > :va) and exists (select i as x from v)")
		for _, text := range []string{
			"select 1 as x", "select i as x, ia as y from t", "select x as x from u where x > :va", "select t.i as x, u.x as y from t join u on t.i = u.x", "select t.i as x, u.x as y from t left join u on true", "select ia as x, count(*) as n, sum(ib) as s from t group by ia, ib having count(*) > 1",
			"select count(*) as n, max(ia) as m from v join t on true", "select distinct i as x from v visible order by -x limit 2", "select ia as x, i as y from t union all select ib as x, i as y from t", "select x as x from u union select n as x from k", "select x as x from u except select n as x from k", "select x as x from u intersect select n as x from k", "select x as x from (select i as x from t) as q where x in (select x as x from u)",
		} {
			for p := planOf(t, c, text); ; p = p.Kids[0] {
				standsAlone(t, ourWorld(c), n, p)
				if len(p.Kids) == 0 {
					break
				}
			}
		}
		// The same kid twice, and a kid whose columns are handed on.
		kid := scan(tableU)
		for _, kind := range []int{api.PlJoin, api.PlLeft, api.PlUnion, api.PlUnionAll, api.PlExcept, api.PlIntersect} {
			p := pair(kind, kid, kid, neg(0))
			standsAlone(t, ourWorld(c), n, p)
			standsAlone(t, ourWorld(c), n, pair(kind, p, p, at(5)))
			standsAlone(t, ourWorld(c), n, above(api.PlLimit, p))
			standsAlone(t, ourWorld(c), n, above(api.PlSelect, p, at(1)))
		}
	}
}

// The same, of what is made in worlds of any kind.
func TestMadeStandAlone(t *testing.T) {
	madeIn(t, 80000, 1500, func(m *maker, x made) { standsAlone(t, m.world, x.n, x.p) })
}

// What is handed in may be changed when a call has answered.
func TestNothingKept(t *testing.T) {
	c := ours()[1]
	vars, cols := ourVars(c), ourCols(c)
	n, p := nodeOf(t, c, "ia + :va"), planOf(t, c, "select ia as x, :va as y from t")
	mark, sheet := labels.Node(c, vars, cols, n), labels.Plan(c, vars, p)
	spoil(cols)
	for i := range vars {
		vars[i] = api.Named{Name: "other", Level: levelOf(c, "high")}
	}
	p.Kids, p.E[0] = nil, at(9)
	check(t, "the mark", markTold(c, mark), "a raises a")
	check(t, "the sheet", sheetTold(c, sheet), "low: a a")
	check(t, "the mark again", nodeTold(c, n), "a raises a")
}

// Lists without members may be nil or empty.
func TestEmptyOrNil(t *testing.T) {
	for _, c := range ours() {
		for _, vars := range [][]api.Named{nil, {}} {
			for _, cols := range [][]int{nil, {}} {
				n := api.Node{Kind: api.ExNeg, Kids: one(api.Node{Kind: api.ExInt, N: 3, Kids: []api.Node{}, Plans: []api.Plan{}}), Plans: []api.Plan{}}
				check(t, "a node", markTold(c, labels.Node(c, vars, cols, n)), "low raises low")
			}
			p := api.Plan{Kind: api.PlScan, N: tableV, Kids: []api.Plan{}, E: []api.Node{}, Keys: []int{}, Aggs: []api.Gather{}, Desc: []bool{}, Width: 2}
			check(t, "a plan", sheetTold(c, labels.Plan(c, vars, p)), "b: low b")
			p = api.Plan{Kind: api.PlGroup, Kids: one(p), Keys: []int{}, Aggs: one(api.Gather{Fn: "count", E: []api.Node{}}), Width: 1}
			check(t, "a group", sheetTold(c, labels.Plan(c, vars, p)), "low: b")
		}
	}
}
