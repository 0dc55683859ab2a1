package unparse_test

import (
	"reflect"
	"testing"

	"cordon/api"
	"cordon/syntax"
	"cordon/unparse"
)

// What is written, put together by hand.

func null() api.Expr                { return api.Expr{Kind: api.ExNull} }
func yes() api.Expr                 { return api.Expr{Kind: api.ExBool, N: 1} }
func no() api.Expr                  { return api.Expr{Kind: api.ExBool} }
func num(n int) api.Expr            { return api.Expr{Kind: api.ExInt, N: n} }
func text(s string) api.Expr        { return api.Expr{Kind: api.ExText, S: s} }
func col(s string) api.Expr         { return api.Expr{Kind: api.ExCol, S: s} }
func colOf(t, s string) api.Expr    { return api.Expr{Kind: api.ExCol, T: t, S: s} }
func variable(s string) api.Expr    { return api.Expr{Kind: api.ExVar, S: s} }
func neg(x api.Expr) api.Expr       { return api.Expr{Kind: api.ExNeg, Kids: one(x)} }
func not(x api.Expr) api.Expr       { return api.Expr{Kind: api.ExNot, Kids: one(x)} }
func is(n int, x api.Expr) api.Expr { return api.Expr{Kind: api.ExIs, N: n, Kids: one(x)} }
func exists(q api.Query) api.Expr   { return api.Expr{Kind: api.ExExists, Q: one(q)} }
func scalar(q api.Query) api.Expr   { return api.Expr{Kind: api.ExScalar, Q: one(q)} }

func in(n int, x api.Expr, q api.Query) api.Expr {
	return api.Expr{Kind: api.ExIn, N: n, Kids: one(x), Q: one(q)}
}

func bin(a api.Expr, mark string, b api.Expr) api.Expr {
	return api.Expr{Kind: api.ExBin, S: mark, Kids: one(a, b)}
}

func choice(a, b, c api.Expr) api.Expr { return api.Expr{Kind: api.ExCase, Kids: one(a, b, c)} }

func agg(name string, kids ...api.Expr) api.Expr {
	return api.Expr{Kind: api.ExAgg, S: name, Kids: kids}
}

func one[T any](l ...T) []T { return l }

func item(e api.Expr, name string) api.Item { return api.Item{E: e, Name: name} }

func sel(items ...api.Item) api.Query {
	return api.Query{Kind: api.QuSelect, Items: items, Limit: -1}
}

// selA is select a as x, and so on.
func selA(name string) api.Query { return sel(item(col(name), "x")) }

func with[T any](x T, change func(x *T)) T {
	change(&x)
	return x
}

func from(f api.From) api.Query {
	return with(selA("a"), func(q *api.Query) { q.From = one(f) })
}

func put(kind int, a, b api.Query) api.Query {
	return api.Query{Kind: kind, Limit: -1, Kids: one(a, b)}
}

func table(name string) api.From { return tableAs(name, name) }

func tableAs(name, as string) api.From {
	return api.From{Kind: api.FrTable, Table: name, As: as}
}

func fromQuery(q api.Query, as string) api.From {
	return api.From{Kind: api.FrQuery, As: as, Q: one(q)}
}

func join(kind int, a, b api.From, on api.Expr) api.From {
	return api.From{Kind: kind, Kids: one(a, b), On: one(on)}
}

func body(l ...api.Stmt) api.Script { return api.Script{Body: l} }

func skip() api.Stmt { return api.Stmt{Kind: api.StSkip} }

func set(name string, x api.Expr) api.Stmt {
	return api.Stmt{Kind: api.StSet, Names: one(name), E: one(x)}
}

func tried(body, other []api.Stmt) api.Stmt {
	return api.Stmt{Kind: api.StTry, Body: body, Else: other}
}

func tables(l ...api.Table) api.Schema { return api.Schema{Tables: l} }

// tableT is table t rows l (a int l);.
func tableT() api.Table {
	return api.Table{Name: "t", Rows: "l", Cols: one(api.Col{Name: "a", Type: api.TyInt, Level: "l"})}
}

func hidden(when api.Expr) api.Schema {
	return tables(with(tableT(), func(x *api.Table) { x.Hide, x.When = "h", one(when) }))
}

// face is one of the four calls, and the one that reads what it writes; what goes in and comes out is taken as of any type.
type face struct {
	name  string
	write func(x any) (string, api.Errno)
	read  func(s string) (any, int, api.Errno)
	model func(x any) string
}

func faceOf[T any](name string, write func(x T) (string, api.Errno), read func(s string) (T, int, api.Errno), model func(x T) string) face {
	return face{
		name:  name,
		write: func(x any) (string, api.Errno) { return write(x.(T)) },
		read: func(s string) (any, int, api.Errno) {
			x, at, err := read(s)
			return x, at, err
		},
		model: func(x any) string { return model(x.(T)) },
	}
}

// faceFor is the call for what x is.
func faceFor(x any) face {
	m := model{}
	switch x.(type) {
	case api.Expr:
		return faceOf("Expr", unparse.Expr, syntax.Expr, m.expr)
	case api.Query:
		return faceOf("Query", unparse.Query, syntax.Query, m.query)
	case api.Script:
		return faceOf("Script", unparse.Script, syntax.Script, m.script)
	}
	return faceOf("Schema", unparse.Schema, syntax.Schema, m.schema)
}

// short is a text for people: the front and the end of it, if it is long.
func short(s string) string {
	if len(s) > 300 {
		return s[:200] + " .. " + s[len(s)-90:]
	}
	return s
}

// copied is a copy that shares nothing with what it is of.
func copied(v reflect.Value) reflect.Value {
	out := reflect.New(v.Type()).Elem()
	out.Set(v)
	switch v.Kind() {
	case reflect.Slice:
		if v.Len() > 0 {
			out.Set(reflect.MakeSlice(v.Type(), v.Len(), v.Len()))
		}
		for i := range v.Len() {
			out.Index(i).Set(copied(v.Index(i)))
		}
	case reflect.Struct:
		for i := range v.NumField() {
			out.Field(i).Set(copied(v.Field(i)))
		}
	}
	return out
}

// same: all is one but places of statements; lists without members are one.
func same(a, b any) bool { return alike(reflect.ValueOf(a), reflect.ValueOf(b)) }

func alike(a, b reflect.Value) bool {
	switch a.Kind() {
	case reflect.Slice:
		if a.Len() != b.Len() {
			return false
		}
		for i := range a.Len() {
			if !alike(a.Index(i), b.Index(i)) {
				return false
			}
		}
		return true
	case reflect.Struct:
		_, isStmt := a.Interface().(api.Stmt)
		for i := range a.NumField() {
			if isAt := isStmt && i == 1; !isAt && !alike(a.Field(i), b.Field(i)) {
				return false
			}
		}
		return true
	case reflect.String:
		return a.String() == b.String()
	case reflect.Bool:
		return a.Bool() == b.Bool()
	}
	return a.Int() == b.Int()
}

// writes holds what is written of x against a text, and what is read of that against x.
func writes(t *testing.T, x any, want string) {
	t.Helper()
	f := faceFor(x)
	got, err := f.write(x)
	if err != api.OK || got != want {
		t.Errorf("%s: %v\n got %q\nwant %q", f.name, err, short(got), short(want))
		return
	}
	if back, at, err := f.read(got); err != api.OK || !same(back, x) {
		t.Errorf("%s %q is read otherwise: %d %v", f.name, short(got), at, err)
	}
}

func refuses(t *testing.T, x any, want api.Errno) {
	t.Helper()
	f := faceFor(x)
	if got, err := f.write(x); err != want || got != "" {
		t.Errorf("%s %q: %v, want %v (as if right: %q)", f.name, short(got), err, want, short(f.model(x)))
	}
}
