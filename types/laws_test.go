package types_test

import (
	"math/rand"
	"reflect"
	"slices"
	"testing"

	"cordon/api"
	"cordon/types"
)

// samples are queries with each of their parts there and left out, in which nothing is wrong.
func samples() []string {
	return []string{
		whole,
		"select 1 as x",
		"select i1 as x, s1 as y from t where b1 order by y desc, x limit 1",
		"select distinct t.i1 as x, u.s2 as y from t left join u on t.i1 = u.i1",
		"select s1 as s, count(*) as n, sum(i1) as m from t visible group by t.s1 having max(b1) order by s",
		"select x as y from (select null as x union select i1 as z from u) as q where x in (select i1 as w from t)",
		"select i1 as x from t union all select -count(*) as x from v except select (select max(i2) as m from v) as x",
		"select case when exists (select 1 as x, 2 as y from u) then s1 || 'x' else :s end as x, b1 is not null as y from t",
		"select max(i2 + (select i1 as x from t)) in (select i1 as y from u) as x from v",
		"select not (b2 or b3 and true) as x, i2 * 2 % 3 - 1 / 4 >= -i2 as y, :i <> 1 as z from v",
	}
}

// spots are all places within a value that can be changed where they stand.
func spots(v reflect.Value) []reflect.Value {
	out := []reflect.Value{v}
	switch v.Kind() {
	case reflect.Slice:
		for i := range v.Len() {
			out = append(out, spots(v.Index(i))...)
		}
	case reflect.Struct:
		for i := range v.NumField() {
			out = append(out, spots(v.Field(i))...)
		}
	}
	return out
}

// members are what may stand in a list.
func members(of reflect.Type) []reflect.Value {
	var out []reflect.Value
	for _, x := range []any{
		null(), num(1), text("x"), col("i1"), colOf("t", "b1"), agg("count"), neg(text("x")), scalar(sel(num(1))),
		sel(num(1)), sel(null(), text("x")), table("u", "u"), table("v", "v"), table("most", "most"), fromQuery(sel(yes()), "q"),
		api.Item{E: null(), Name: "x"}, api.Item{E: agg("max", num(1)), Name: "n"}, api.Key{E: col("x")}, api.Key{E: col("i1")},
	} {
		if reflect.TypeOf(x) == of {
			out = append(out, reflect.ValueOf(x))
		}
	}
	return out
}

// changes are other values for what stands somewhere.
func changes(v reflect.Value) []reflect.Value {
	var out []reflect.Value
	switch v.Kind() {
	case reflect.Bool:
		out = append(out, reflect.ValueOf(!v.Bool()))
	case reflect.Int:
		for n := -1; n <= 16; n++ {
			out = append(out, reflect.ValueOf(n))
		}
	case reflect.String:
		for _, s := range append(slices.Clone(marks), "", "i1", "b1", "s1", "s2", "x", "n", "t", "u", "q", "wide", "nosuch", "count", "sum", "max", "select") {
			out = append(out, reflect.ValueOf(s))
		}
	case reflect.Struct:
		out = append(out, members(v.Type())...)
	case reflect.Slice:
		list := func(members ...reflect.Value) reflect.Value {
			return reflect.Append(reflect.MakeSlice(v.Type(), 0, 0), members...)
		}
		var all []reflect.Value
		for i := range v.Len() {
			all = append(all, v.Index(i))
		}
		out = append(out, list())
		for _, x := range members(v.Type().Elem()) {
			out = append(out, list(x), list(append(all, x)...), list(append([]reflect.Value{x}, all...)...))
		}
		if len(all) > 1 {
			out = append(out, list(all[1:]...), list(append(all, all[0])...), list(append([]reflect.Value{all[len(all)-1]}, all[:len(all)-1]...)...))
		}
	}
	return out
}

// mutants calls test with each change of a query at one place.
func mutants(q api.Query, test func(q api.Query)) {
	q = copied(q)
	for _, at := range spots(reflect.ValueOf(&q).Elem()) {
		old := reflect.New(at.Type()).Elem()
		old.Set(at) // the list itself, not a copy: places in it are still to come
		for _, c := range changes(at) {
			at.Set(c)
			test(q)
			at.Set(old)
		}
	}
}

// Each sample with one part changed: another name, kind or mark, one too many, one too few, another order.
func TestOneChange(t *testing.T) {
	right, seen := 0, map[api.Errno]int{}
	for _, s := range samples() {
		q := readQuery(t, s)
		if !queryHolds(t, ours(), q) {
			t.Errorf("%s: something is wrong", s)
		}
		mutants(q, func(q api.Query) {
			if queryHolds(t, ours(), q) {
				right++
			}
			_, err := judgedQuery(ours(), q)
			seen[err]++
		})
	}
	if right < 1000 {
		t.Errorf("just %d are right", right)
	}
	seenAll(t, seen, 100, api.ErrName, api.ErrType, api.ErrShape, api.ErrForm)
	seenAll(t, seen, 5, api.ErrMany)
}

func seenAll(t *testing.T, seen map[api.Errno]int, least int, all ...api.Errno) {
	t.Helper()
	for _, err := range all {
		if seen[err] < least {
			t.Errorf("%v is told %d times", err, seen[err])
		}
	}
}

func ourMaker(seed int64, slips int) *maker {
	return &maker{rnd: rand.New(rand.NewSource(seed)), s: ours().s, vars: ours().vars[:4], slips: slips}
}

// P9.1 and P9.2, of expressions and queries made at random, right ones and others.
func TestMade(t *testing.T) {
	w, seen := ours(), map[api.Errno]int{}
	for _, slips := range []int{0, 150, 20} {
		m := ourMaker(9, slips)
		for range 4000 {
			x := m.expr(env{all: w.cols, named: w.cols[:4]}, m.kind(), 1+m.rnd.Intn(4))
			exprHolds(t, w, x)
			_, err := judgedExpr(w, x)
			seen[err]++
			q := m.query(numbered(1+m.rnd.Intn(3), func(int) int { return m.kind() }), 1+m.rnd.Intn(4))
			queryHolds(t, w, q)
			_, err = judgedQuery(w, q)
			seen[err]++
		}
		if slips == 0 && len(seen) > 2 { // too long a text may be made
			t.Errorf("%v without slips", seen)
		}
	}
	if seen[api.OK] < 10000 {
		t.Errorf("just %d are right", seen[api.OK])
	}
	seenAll(t, seen, 50, api.ErrName, api.ErrType, api.ErrShape, api.ErrMany)
}

// P1: whatever is handed in is answered.
func TestAnything(t *testing.T) {
	rnd := rand.New(rand.NewSource(91))
	for range 20000 {
		var q api.Query
		var x api.Expr
		scribble(rnd, reflect.ValueOf(&q).Elem(), 4)
		scribble(rnd, reflect.ValueOf(&x).Elem(), 4)
		queryHolds(t, ours(), q)
		exprHolds(t, ours(), x)
	}
}

func scribble(rnd *rand.Rand, v reflect.Value, deep int) {
	switch v.Kind() {
	case reflect.Bool:
		v.SetBool(rnd.Intn(4) == 0)
	case reflect.Int:
		v.SetInt(int64(rnd.Intn(18) - 1))
	case reflect.String:
		v.SetString([]string{"", "i1", "t", "x", "or", "="}[rnd.Intn(6)])
	case reflect.Slice:
		if deep > 0 {
			v.Set(reflect.MakeSlice(v.Type(), []int{0, 0, 1, 1, 2}[rnd.Intn(5)], 2))
		}
		for i := range v.Len() {
			scribble(rnd, v.Index(i), deep-1)
		}
	case reflect.Struct:
		for i := range v.NumField() {
			scribble(rnd, v.Field(i), deep)
		}
	}
}

// P9.3: more variables behind, and more places of other names, change nothing.
func TestMore(t *testing.T) {
	w, m := ours(), ourMaker(93, 60)
	vars := slices.Concat(w.vars, []api.Var{{Name: "n", Type: api.TyInt}, {Name: "s", Type: api.TyBool}, {Name: "other", Type: api.TyText}, {Name: "other", Type: api.TyInt}, {}})
	more := []api.Place{{T: "t", Name: "other", Type: api.TyText}, {T: "u", Name: "other", Type: api.TyInt}, {Name: "t", Type: api.TyBool}, {T: "i", Name: "I", Type: api.TyInt}, {}}
	typed := 0
	for range 4000 {
		x := m.expr(env{all: w.cols, named: w.cols[:4]}, m.kind(), 1+m.rnd.Intn(4))
		cols := slices.Clone(w.cols)
		for range 1 + m.rnd.Intn(4) {
			cols = slices.Insert(cols, m.rnd.Intn(len(cols)+1), pick(m, more...))
		}
		kind, err := types.Expr(w.c, w.vars, w.cols, x)
		if err == api.OK {
			typed++
		}
		for _, l := range []struct {
			vars []api.Var
			cols []api.Place
		}{{vars, w.cols}, {w.vars, cols}, {vars, cols}} {
			if got, gotErr := types.Expr(w.c, l.vars, l.cols, x); got != kind || gotErr != err {
				t.Errorf("%s with more, %s ahead", kindTold(got, gotErr), kindTold(kind, err))
			}
		}
		q := m.query(one(m.kind()), 1+m.rnd.Intn(3))
		if got, want := colsTold(types.Query(w.c, vars, q)), colsTold(types.Query(w.c, w.vars, q)); got != want {
			t.Errorf("%s with more variables, %s ahead", got, want)
		}
	}
	if typed < 1000 {
		t.Errorf("just %d have a type", typed)
	}
}

// columnsIn calls test for each column in a value, as it stands there, but those of Group itself, which may be nothing else.
func columnsIn(v reflect.Value, test func(x *api.Expr)) {
	switch v.Kind() {
	case reflect.Slice:
		for i := range v.Len() {
			columnsIn(v.Index(i), test)
		}
	case reflect.Struct:
		if x, ok := v.Addr().Interface().(*api.Expr); ok && x.Kind == api.ExCol {
			test(x)
		}
		for i := range v.NumField() {
			if v.Type().Field(i).Name != "Group" {
				columnsIn(v.Field(i), test)
			}
		}
	}
}

// P9.4: a constant in the place of a column, whose type its name tells, changes nothing.
func TestConstantsPutIn(t *testing.T) {
	w, m, put := ours(), ourMaker(94, 0), 0
	for range 3000 {
		x := m.expr(env{all: w.cols, named: w.cols[:4]}, m.kind(), 1+m.rnd.Intn(4))
		want := kindTold(types.Expr(w.c, w.vars, w.cols, x))
		columnsIn(reflect.ValueOf(&x).Elem(), func(at *api.Expr) {
			old := *at
			*at = constants()[letterType(old.S)]
			if got := kindTold(types.Expr(w.c, w.vars, w.cols, x)); got != want {
				t.Errorf("%s: %s with a constant, %s ahead", old.S, got, want)
			}
			*at = old
			put++
		})
		q := m.query(numbered(1+m.rnd.Intn(3), func(int) int { return m.kind() }), 1+m.rnd.Intn(4))
		want = colsTold(types.Query(w.c, w.vars, q))
		columnsIn(reflect.ValueOf(&q).Elem(), func(at *api.Expr) {
			old := *at
			*at = constants()[letterType(old.S)]
			if got := colsTold(types.Query(w.c, w.vars, q)); got != want {
				t.Errorf("%s: %s with a constant, %s ahead", old.S, got, want)
			}
			*at = old
			put++
		})
	}
	if put < 5000 {
		t.Errorf("just %d columns", put)
	}
}
