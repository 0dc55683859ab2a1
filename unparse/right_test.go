package unparse_test

import (
	"fmt"
	"math/rand"
	"reflect"
	"strings"
	"testing"

	"cordon/api"
)

// P7.1, of what is not right. What is right is what some text is read as: the model writes a text for anything, and that is read as the same again just if it is right.
func judged(t *testing.T, x any) (string, api.Errno) {
	t.Helper()
	f := faceFor(x)
	s := f.model(x)
	back, _, err := f.read(s)
	switch {
	case err == api.ErrDeep || err == api.ErrMany:
		t.Fatalf("%s %q can't be judged: %v", f.name, short(s), err)
	case err != api.OK || !same(back, x):
		return "", api.ErrForm
	}
	return s, api.OK
}

// holds holds what is answered against what is judged, and tells whether x is right.
func holds(t *testing.T, x any, why string) bool {
	t.Helper()
	f := faceFor(x)
	want, wantErr := judged(t, x)
	got, err := f.write(x)
	if got != want || err != wantErr {
		t.Errorf("%s %q (%s): %q %v, want %v", f.name, short(f.model(x)), why, short(got), err, wantErr)
	}
	return wantErr == api.OK
}

// spot is something within a value that can be changed where it stands.
type spot struct {
	v    reflect.Value
	path string
}

func spots(v reflect.Value, path string) []spot {
	out := []spot{{v, path}}
	switch v.Kind() {
	case reflect.Slice:
		for i := range v.Len() {
			out = append(out, spots(v.Index(i), fmt.Sprintf("%s[%d]", path, i))...)
		}
	case reflect.Struct:
		for i := range v.NumField() {
			out = append(out, spots(v.Field(i), path+"."+v.Type().Field(i).Name)...)
		}
	}
	return out
}

// member is something right that may stand in a list.
func member(of reflect.Type) reflect.Value {
	for _, x := range []any{
		"a", col("a"), selA("a"), table("t"), item(col("a"), "x"), api.Key{E: col("a")}, skip(), api.Var{Name: "x", Type: api.TyInt}, api.Proc{Name: "p"},
		tableT(), tableT().Cols[0], api.Pair{Low: "a", High: "b"},
	} {
		if reflect.TypeOf(x) == of {
			return reflect.ValueOf(x)
		}
	}
	panic(of)
}

// changes are other values for what stands somewhere.
func changes(v reflect.Value) []reflect.Value {
	var out []reflect.Value
	switch v.Kind() {
	case reflect.Bool:
		out = append(out, reflect.ValueOf(!v.Bool()))
	case reflect.Int:
		for _, n := range []int{-1 << 63, -1000, -2, -1, 0, 1, 2, 3, 4, 5, 6, 7, 8, 9, 10, 11, 12, 13, 14, 15, 16, 17, 18, 999999999999999999, 1000000000000000000, 1<<63 - 1} {
			out = append(out, reflect.ValueOf(n))
		}
	case reflect.String:
		for _, s := range []string{"", "a", "b", "t", "or", "and", "not", "+", "-", "--", "||", "|", "<>", "!=", "in", "count", "sum", "max", "Count", "avg", "select", "null", "*", "a b", " a", "a.b", "9", "a;", "é", "\x00", "\n"} {
			out = append(out, reflect.ValueOf(s))
		}
	case reflect.Slice:
		list := func(members ...reflect.Value) reflect.Value {
			return reflect.Append(reflect.MakeSlice(v.Type(), 0, 0), members...)
		}
		var all []reflect.Value
		for i := range v.Len() {
			all = append(all, v.Index(i))
		}
		zero, right := reflect.Zero(v.Type().Elem()), member(v.Type().Elem())
		out = append(out, list(), list(zero), list(right), list(right, right), list(right, right, right), list(append(all, right)...), list(append(all, zero)...), list(append([]reflect.Value{right}, all...)...))
		if len(all) > 0 {
			out = append(out, list(all[1:]...), list(all[:len(all)-1]...), list(append(all, all[0])...))
		}
	}
	return out
}

// mutants calls test with each change of x at one place.
func mutants(x any, test func(y any, why string)) {
	v := copied(reflect.ValueOf(x))
	for _, s := range spots(v, "") {
		old := reflect.New(s.v.Type()).Elem()
		old.Set(s.v) // the list itself, not a copy: places in it are still to come
		for _, c := range changes(s.v) {
			s.v.Set(c)
			test(v.Interface(), s.path)
			s.v.Set(old)
		}
	}
}

// Each sample with one part changed: one too many, one too few, a field that its kind has not, another kind.
func TestOneChange(t *testing.T) {
	right, wrong := 0, 0
	for _, all := range samples() {
		for _, x := range all {
			mutants(x, func(y any, why string) {
				if holds(t, y, why) {
					right++
				} else {
					wrong++
				}
			})
		}
	}
	if right < 10000 || wrong < 10000 {
		t.Errorf("%d are right and %d wrong: of one too few are tried", right, wrong)
	}
}

// Several changes at once.
func TestSeveralChanges(t *testing.T) {
	rnd := rand.New(rand.NewSource(71))
	var all []any
	for _, x := range samples() {
		all = append(all, x...)
	}
	for range 12000 {
		v := copied(reflect.ValueOf(all[rnd.Intn(len(all))]))
		for range 2 + rnd.Intn(3) {
			places := spots(v, "")
			s := places[rnd.Intn(len(places))].v
			if c := changes(s); len(c) > 0 {
				s.Set(copied(c[rnd.Intn(len(c))]))
			}
		}
		holds(t, v.Interface(), "several")
	}
}

func TestZeroValues(t *testing.T) {
	refuses(t, api.Expr{}, api.ErrForm)
	refuses(t, api.Query{}, api.ErrForm)
	writes(t, api.Script{}, "")
	writes(t, api.Schema{}, "")
}

// Each kind with nothing, and with each part alone.
func TestKinds(t *testing.T) {
	for kind := -2; kind <= 20; kind++ {
		q := one(selA("a"))
		for _, x := range []api.Expr{
			{}, {N: 1}, {N: 2}, {S: "a"}, {S: "count"}, {S: "+"}, {S: "or"}, {T: "a"}, {S: "a", T: "b"}, {Kids: one(col("a"))}, {Q: q}, {Kids: one(col("a")), Q: q}, {N: 1, Kids: one(col("a")), Q: q},
			{S: "min", Kids: one(col("a"))}, {S: "=", Kids: one(col("a"), col("b"))}, {Kids: one(col("a"), col("b"), col("c"))},
		} {
			x.Kind = kind
			holds(t, x, "kind")
		}
		for _, x := range []api.Query{{}, {Limit: -1}, {Limit: -1, Kids: one(selA("a"), selA("b"))}, {Kids: one(selA("a"), selA("b"))}, selA("a"), from(table("t"))} {
			x.Kind = kind
			holds(t, x, "kind")
		}
		for _, x := range []api.From{{}, table("t"), tableAs("t", "u"), {As: "u"}, {Table: "t"}, fromQuery(selA("a"), "u"), {Q: q}, join(0, table("t"), table("u"), yes()), {Kids: one(table("t"), table("u"))}, {On: one(yes())}} {
			x.Kind = kind
			holds(t, from(x), "kind")
			holds(t, from(join(api.FrJoin, x, table("u"), yes())), "kind, first of a join")
			holds(t, from(join(api.FrLeft, table("u"), x, yes())), "kind, second of a join")
		}
		for _, x := range stmtSamples() {
			x.Kind = kind
			holds(t, body(x), "kind")
		}
		holds(t, body(api.Stmt{Kind: kind}), "kind")
		v := one(api.Var{Name: "x", Type: kind})
		holds(t, api.Script{Vars: v}, "kind")
		holds(t, api.Script{Procs: one(api.Proc{Name: "p", Params: v})}, "kind")
		holds(t, api.Script{Procs: one(api.Proc{Name: "p", Vars: v})}, "kind")
		holds(t, tables(with(tableT(), func(x *api.Table) { x.Cols[0].Type = kind })), "kind")
	}
}

// The second of a join is no join.
func TestJoinsOnTheRight(t *testing.T) {
	tu := join(api.FrJoin, table("t"), table("u"), yes())
	for _, kind := range []int{api.FrJoin, api.FrLeft} {
		writes(t, from(join(kind, tu, table("v"), no())), "select a as x from t join u on true "+map[int]string{api.FrLeft: "left "}[kind]+"join v on false")
		refuses(t, from(join(kind, table("v"), tu, no())), api.ErrForm)
		refuses(t, from(join(kind, tu, tu, no())), api.ErrForm)
		refuses(t, from(join(kind, table("v"), with(tu, func(f *api.From) { f.Kind = api.FrLeft }), no())), api.ErrForm)
	}
}

// Where an expression, a query, something that rows come from, and a statement stand.

func exprPlaces() []func(x api.Expr) any {
	q := selA("b")
	a := col("a")
	return []func(x api.Expr) any{
		func(x api.Expr) any { return x },
		func(x api.Expr) any { return neg(x) },
		func(x api.Expr) any { return not(x) },
		func(x api.Expr) any { return is(1, x) },
		func(x api.Expr) any { return bin(x, "+", a) },
		func(x api.Expr) any { return bin(a, "or", x) },
		func(x api.Expr) any { return choice(x, a, a) },
		func(x api.Expr) any { return choice(a, x, a) },
		func(x api.Expr) any { return choice(a, a, x) },
		func(x api.Expr) any { return in(0, x, q) },
		func(x api.Expr) any { return agg("count", x) },
		func(x api.Expr) any { return exists(sel(item(x, "y"))) },
		func(x api.Expr) any { return in(1, a, sel(item(a, "z"), item(x, "y"))) },
		func(x api.Expr) any { return scalar(put(api.QuUnion, q, put(api.QuExcept, q, sel(item(x, "y"))))) },
		func(x api.Expr) any { return with(q, func(q *api.Query) { q.Where = one(x) }) },
		func(x api.Expr) any { return with(q, func(q *api.Query) { q.Group = one(a, x) }) },
		func(x api.Expr) any { return with(q, func(q *api.Query) { q.Group, q.Having = one(a), one(x) }) },
		func(x api.Expr) any {
			return with(q, func(q *api.Query) { q.Order = one(api.Key{E: a}, api.Key{E: x, Desc: true}) })
		},
		func(x api.Expr) any {
			return from(join(api.FrLeft, join(api.FrJoin, table("t"), table("u"), x), table("v"), a))
		},
		func(x api.Expr) any { return from(fromQuery(sel(item(x, "y")), "u")) },
		func(x api.Expr) any { return body(set("x", x)) },
		func(x api.Expr) any { return body(skip(), api.Stmt{Kind: api.StIf, E: one(x)}) },
		func(x api.Expr) any { return body(api.Stmt{Kind: api.StWhile, E: one(x)}) },
		func(x api.Expr) any {
			return body(api.Stmt{Kind: api.StFor, Names: one("x"), Q: one(sel(item(x, "y")))})
		},
		func(x api.Expr) any { return body(api.Stmt{Kind: api.StPrint, Table: "out", E: one(x)}) },
		func(x api.Expr) any { return body(api.Stmt{Kind: api.StInsert, Table: "t", E: one(a, x)}) },
		func(x api.Expr) any {
			return body(api.Stmt{Kind: api.StUpdate, Table: "t", Names: one("a", "b"), E: one(a, x)})
		},
		func(x api.Expr) any {
			return body(api.Stmt{Kind: api.StUpdate, Table: "t", Names: one("a"), E: one(a), Where: one(x)})
		},
		func(x api.Expr) any { return body(api.Stmt{Kind: api.StDelete, Table: "t", Where: one(x)}) },
		func(x api.Expr) any { return body(api.Stmt{Kind: api.StCall, Table: "p", E: one(a, x)}) },
		func(x api.Expr) any { return api.Script{Procs: one(api.Proc{Name: "p", Body: one(set("x", x))})} },
		func(x api.Expr) any { return hidden(x) },
	}
}

func queryPlaces() []func(x api.Query) any {
	q := selA("b")
	return []func(x api.Query) any{
		func(x api.Query) any { return x },
		func(x api.Query) any { return put(api.QuUnion, x, q) },
		func(x api.Query) any { return put(api.QuUnionAll, q, x) },
		func(x api.Query) any { return put(api.QuExcept, put(api.QuIntersect, q, x), q) },
		func(x api.Query) any { return exists(x) },
		func(x api.Query) any { return in(0, col("a"), x) },
		func(x api.Query) any { return scalar(x) },
		func(x api.Query) any { return from(fromQuery(x, "u")) },
		func(x api.Query) any { return from(join(api.FrJoin, table("t"), fromQuery(x, "u"), yes())) },
		func(x api.Query) any { return body(api.Stmt{Kind: api.StFor, Names: one("x"), Q: one(x)}) },
		func(x api.Query) any { return body(api.Stmt{Kind: api.StInsertQ, Table: "t", Q: one(x)}) },
		func(x api.Query) any { return hidden(exists(x)) },
	}
}

func stmtPlaces() []func(x api.Stmt) any {
	a := col("a")
	return []func(x api.Stmt) any{
		func(x api.Stmt) any { return body(x) },
		func(x api.Stmt) any { return body(skip(), x, skip()) },
		func(x api.Stmt) any { return api.Script{Procs: one(api.Proc{Name: "p", Body: one(skip(), x)})} },
		func(x api.Stmt) any { return body(api.Stmt{Kind: api.StIf, E: one(a), Body: one(x)}) },
		func(x api.Stmt) any { return body(api.Stmt{Kind: api.StIf, E: one(a), Else: one(skip(), x)}) },
		func(x api.Stmt) any { return body(api.Stmt{Kind: api.StWhile, E: one(a), Body: one(x)}) },
		func(x api.Stmt) any {
			return body(api.Stmt{Kind: api.StFor, Names: one("x"), Q: one(selA("a")), Body: one(skip(), x)})
		},
		func(x api.Stmt) any { return body(tried(one(x), nil)) },
		func(x api.Stmt) any { return body(tried(nil, one(tried(one(x), nil)))) },
	}
}

// smallStmts is one of each kind.
func smallStmts() []api.Stmt {
	a := one(null())
	return []api.Stmt{
		{Kind: api.StSet, Names: one("x"), E: a}, {Kind: api.StIf, E: a, Else: one(skip())}, {Kind: api.StWhile, E: a}, {Kind: api.StFor, Names: one("x"), Q: one(selA("a"))}, {Kind: api.StPrint, Table: "out", E: a},
		{Kind: api.StInput, Names: one("x")}, {Kind: api.StInsert, Table: "t", E: a}, {Kind: api.StInsertQ, Table: "t", Q: one(selA("a"))}, {Kind: api.StUpdate, Table: "t", Names: one("a"), E: a, Where: a},
		{Kind: api.StDelete, Table: "t", Where: a}, {Kind: api.StTry}, {Kind: api.StRaise}, {Kind: api.StCall, Table: "p"}, {Kind: api.StBegin}, {Kind: api.StCommit}, {Kind: api.StRollback}, skip(),
	}
}

// What is wrong is wrong wherever it stands.
func TestWrongDeeperDown(t *testing.T) {
	for _, x := range exprSamples() {
		for _, place := range exprPlaces() {
			holds(t, place(x), "as it is")
		}
	}
	small := []api.Expr{null(), yes(), num(1), text("s"), colOf("t", "a"), variable("v"), neg(col("a")), is(1, col("a")), bin(col("a"), "+", col("b")), choice(null(), null(), null()), exists(selA("a")), in(0, null(), selA("a")), agg("count"), agg("sum", col("a"))}
	for _, x := range small {
		mutants(x, func(y any, why string) {
			for _, place := range exprPlaces() {
				holds(t, place(y.(api.Expr)), why)
			}
		})
	}
	for _, x := range []api.Query{selA("a"), from(tableAs("t", "u")), from(join(api.FrJoin, table("t"), fromQuery(selA("b"), "u"), yes())), put(api.QuUnion, selA("a"), selA("b"))} {
		mutants(x, func(y any, why string) {
			for _, place := range queryPlaces() {
				holds(t, place(y.(api.Query)), why)
			}
		})
	}
	for _, x := range smallStmts() {
		mutants(x, func(y any, why string) {
			for _, place := range stmtPlaces() {
				holds(t, place(y.(api.Stmt)), why)
			}
		})
	}
}

// At is aside, whatever it is.
func TestPlacesAreAside(t *testing.T) {
	for _, at := range []int{-1 << 63, -1, 0, 1, 20001, 1<<63 - 1} {
		x := with(skip(), func(s *api.Stmt) { s.At = at })
		for _, place := range stmtPlaces() {
			want, _ := faceFor(place(skip())).write(place(skip()))
			writes(t, place(x), want)
		}
	}
}

// StUpdate has as many names as expressions.
func TestUpdates(t *testing.T) {
	for names := range 4 {
		for exprs := range 4 {
			x := api.Stmt{Kind: api.StUpdate, Table: "t"}
			var want []string
			for range names {
				x.Names = append(x.Names, "a")
				want = append(want, "a = 1")
			}
			for range exprs {
				x.E = append(x.E, num(1))
			}
			if names == exprs && names > 0 {
				writes(t, body(x), "update t set "+strings.Join(want, ", ")+";\n")
			} else {
				refuses(t, body(x), api.ErrForm)
			}
		}
	}
}

// hide and when stand together, or neither does.
func TestHiding(t *testing.T) {
	for _, hide := range []string{"", "h", "level"} {
		for when := range 3 {
			x := with(tableT(), func(x *api.Table) { x.Hide = hide })
			for range when {
				x.When = append(x.When, yes())
			}
			switch {
			case hide == "" && when == 0:
				writes(t, tables(x), "table t rows l (a int l);\n")
			case hide == "h" && when == 1:
				writes(t, tables(x), "table t rows l (a int l) hide h when true;\n")
			default:
				refuses(t, tables(x), api.ErrForm)
			}
		}
	}
}
