package schema_test

import (
	"reflect"
	"testing"

	"cordon/api"
	"cordon/schema"
	"cordon/syntax"
)

// What is looked up, put together by hand.

func null() api.Expr                { return api.Expr{Kind: api.ExNull} }
func yes() api.Expr                 { return api.Expr{Kind: api.ExBool, N: 1} }
func no() api.Expr                  { return api.Expr{Kind: api.ExBool} }
func num(n int) api.Expr            { return api.Expr{Kind: api.ExInt, N: n} }
func text(s string) api.Expr        { return api.Expr{Kind: api.ExText, S: s} }
func col(s string) api.Expr         { return api.Expr{Kind: api.ExCol, S: s} }
func colOf(t, s string) api.Expr    { return api.Expr{Kind: api.ExCol, T: t, S: s} }
func not(x api.Expr) api.Expr       { return api.Expr{Kind: api.ExNot, Kids: one(x)} }
func is(n int, x api.Expr) api.Expr { return api.Expr{Kind: api.ExIs, N: n, Kids: one(x)} }

func bin(a api.Expr, mark string, b api.Expr) api.Expr {
	return api.Expr{Kind: api.ExBin, S: mark, Kids: one(a, b)}
}

func choice(a, b, c api.Expr) api.Expr { return api.Expr{Kind: api.ExCase, Kids: one(a, b, c)} }

func one[T any](l ...T) []T { return l }

func with[T any](x T, change func(x *T)) T {
	change(&x)
	return x
}

func column(name string, kind int, level string) api.Col {
	return api.Col{Name: name, Type: kind, Level: level}
}

func pair(low, high string) api.Pair { return api.Pair{Low: low, High: high} }

// cornered is a schema of levels of which a and b stand side by side.
func cornered(tables ...api.Table) api.Schema {
	return api.Schema{
		Levels: one("low", "a", "b", "high"),
		Edges:  one(pair("low", "a"), pair("low", "b"), pair("a", "high"), pair("b", "high")),
		Tables: tables,
	}
}

// wide is a table at a, with columns of each type that are seen there, and others that are not.
func wide(name string) api.Table {
	return api.Table{
		Name: name, Rows: "a", Key: one("n", "id"), Hide: "high", When: one(bin(col("n"), "=", num(1))),
		Cols: one(column("id", api.TyInt, "low"), column("n", api.TyInt, "a"), column("s", api.TyText, "a"), column("f", api.TyBool, "low"), column("beside", api.TyBool, "b"), column("above", api.TyBool, "high")),
	}
}

// hiding is a schema of one table, t, that hides rows by a predicate.
func hiding(when ...api.Expr) api.Schema {
	return cornered(with(wide("t"), func(x *api.Table) { x.When = when }))
}

// sample is a schema that has something of all.
func sample() api.Schema {
	s := cornered(wide("t"), api.Table{Name: "u", Rows: "low", Cols: one(api.Col{Name: "id", Type: api.TyText, Null: true, Level: "high"})},
		api.Table{Name: "v", Rows: "high", Key: one("y"), Cols: one(column("x", api.TyBool, "high"), column("y", api.TyInt, "a")), Hide: "high", When: one(choice(colOf("v", "x"), bin(not(col("x")), "and", null()), is(1, col("y"))))})
	s.Channels = one(pair("out", "low"), pair("err", "high"), pair("log", "a"))
	s.Principals = one(pair("ann", "b"), pair("out", "high"))
	s.Limit = 7
	return s
}

// numbered are n things, each made of its number.
func numbered[T any](n int, make func(i int) T) []T {
	var out []T
	for i := range n {
		out = append(out, make(i))
	}
	return out
}

func read(t *testing.T, text string) api.Schema {
	t.Helper()
	s, at, err := syntax.Schema(text)
	if err != api.OK {
		t.Fatalf("%q: %d %v", text, at, err)
	}
	return s
}

func made(t *testing.T, s api.Schema) *schema.Catalog {
	t.Helper()
	c, at, err := schema.New(s)
	if c == nil || at != 0 || err != api.OK {
		t.Fatalf("%v %d %v: there should be a catalog of %+v", c, at, err, s)
	}
	return c
}

func accepted(t *testing.T, what string, s api.Schema) {
	t.Helper()
	if c, at, err := schema.New(s); c == nil || at != 0 || err != api.OK {
		t.Errorf("%s: %v %d %v, want a catalog", what, c, at, err)
	}
}

func refused(t *testing.T, what string, s api.Schema, wantAt int, want api.Errno) {
	t.Helper()
	if c, at, err := schema.New(s); c != nil || at != wantAt || err != want {
		t.Errorf("%s: %v %d %v, want none, %d %v", what, c, at, err, wantAt, want)
	}
}

// told is all that a catalog answers.
type told struct {
	Levels               []string
	Tables               []api.Relation
	Channels, Principals []api.Named
	Limit                int
}

func tells(c *schema.Catalog) told {
	return told{c.Lattice().Levels(), c.Tables(), c.Channels(), c.Principals(), c.Limit()}
}

// copied is a copy that shares nothing with what it is of.
func copied[T any](x T) T { return copyOf(reflect.ValueOf(x)).Interface().(T) }

func copyOf(v reflect.Value) reflect.Value {
	out := reflect.New(v.Type()).Elem()
	out.Set(v)
	switch v.Kind() {
	case reflect.Slice:
		if !v.IsNil() {
			out.Set(reflect.MakeSlice(v.Type(), v.Len(), v.Len()))
		}
		for i := range v.Len() {
			out.Index(i).Set(copyOf(v.Index(i)))
		}
	case reflect.Struct:
		for i := range v.NumField() {
			out.Field(i).Set(copyOf(v.Field(i)))
		}
	}
	return out
}

// same: all is one; lists without members are one.
func same(a, b any) bool { return alike(reflect.ValueOf(a), reflect.ValueOf(b)) }

func alike(a, b reflect.Value) bool {
	switch a.Kind() {
	case reflect.Slice:
		if a.Len() != b.Len() {
			return false
		}
		for i := range a.Len() {
			if !alike(a.Index(i), b.Index(i)) {
				return false
			}
		}
		return true
	case reflect.Struct:
		for i := range a.NumField() {
			if !alike(a.Field(i), b.Field(i)) {
				return false
			}
		}
		return true
	}
	return a.Interface() == b.Interface()
}

// spoil changes all that can be changed where it stands.
func spoil(v reflect.Value) {
	switch v.Kind() {
	case reflect.Slice:
		for i := range v.Len() {
			spoil(v.Index(i))
		}
		for whole := v.Slice3(0, v.Cap(), v.Cap()); whole.Len() > v.Len(); whole = whole.Slice(0, whole.Len()-1) {
			whole.Index(whole.Len() - 1).SetZero()
		}
	case reflect.Struct:
		for i := range v.NumField() {
			spoil(v.Field(i))
		}
	case reflect.String:
		if v.CanSet() {
			v.SetString(v.String() + "~")
		}
	case reflect.Int:
		if v.CanSet() {
			v.SetInt(v.Int() + 1)
		}
	case reflect.Bool:
		if v.CanSet() {
			v.SetBool(!v.Bool())
		}
	}
}

// spots are all places within a value that can be changed where they stand.
func spots(v reflect.Value) []reflect.Value {
	out := []reflect.Value{v}
	switch v.Kind() {
	case reflect.Slice:
		for i := range v.Len() {
			out = append(out, spots(v.Index(i))...)
		}
	case reflect.Struct:
		for i := range v.NumField() {
			out = append(out, spots(v.Field(i))...)
		}
	}
	return out
}

// member is something that may stand in a list.
func member(of reflect.Type) reflect.Value {
	for _, x := range []any{
		"id", "a", null(), api.Query{Kind: api.QuSelect, Limit: -1}, api.From{Kind: api.FrTable}, api.Item{E: null()}, api.Key{E: null()}, wide("w"), column("w", api.TyInt, "low"), pair("low", "high"),
	} {
		if reflect.TypeOf(x) == of {
			return reflect.ValueOf(x)
		}
	}
	panic(of)
}

// changes are other values for what stands somewhere.
func changes(v reflect.Value) []reflect.Value {
	var out []reflect.Value
	switch v.Kind() {
	case reflect.Bool:
		out = append(out, reflect.ValueOf(!v.Bool()))
	case reflect.Int:
		for _, n := range []int{-1 << 63, -2, -1, 0, 1, 2, 3, 4, 5, 6, 7, 8, 9, 10, 11, 12, 13, 14, 15, 16, api.MaxRows, api.MaxRows + 1, 1<<63 - 1} {
			out = append(out, reflect.ValueOf(n))
		}
	case reflect.String:
		for _, s := range []string{"", "low", "a", "b", "high", "t", "u", "v", "id", "n", "x", "above", "out", "or", "and", "=", "<>", "<", "<=", ">", ">=", "+", "||", "Low", "select", " ", "\x00", "é"} {
			out = append(out, reflect.ValueOf(s))
		}
	case reflect.Slice:
		list := func(members ...reflect.Value) reflect.Value {
			return reflect.Append(reflect.MakeSlice(v.Type(), 0, 0), members...)
		}
		var all []reflect.Value
		for i := range v.Len() {
			all = append(all, v.Index(i))
		}
		zero, other := reflect.Zero(v.Type().Elem()), member(v.Type().Elem())
		out = append(out, list(), list(zero), list(other), list(other, other), list(append(all, other)...), list(append(all, zero)...), list(append([]reflect.Value{other}, all...)...))
		if len(all) > 0 {
			out = append(out, list(all[1:]...), list(all[:len(all)-1]...), list(append(all, all[0])...), list(append([]reflect.Value{all[len(all)-1]}, all[:len(all)-1]...)...))
		}
	}
	return out
}

// mutants calls test with each change of a schema at one place.
func mutants(s api.Schema, test func(s api.Schema)) {
	v := reflect.ValueOf(&s).Elem()
	v.Set(copyOf(v))
	for _, at := range spots(v) {
		old := reflect.New(at.Type()).Elem()
		old.Set(at) // the list itself, not a copy: places in it are still to come
		for _, c := range changes(at) {
			at.Set(c)
			test(s)
			at.Set(old)
		}
	}
}
