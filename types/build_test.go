package types_test

import (
	"fmt"
	"reflect"
	"strings"
	"sync"
	"testing"

	"cordon/api"
	"cordon/schema"
	"cordon/syntax"
	"cordon/types"
)

// What is looked at, put together by hand.

func null() api.Expr                { return api.Expr{Kind: api.ExNull} }
func yes() api.Expr                 { return api.Expr{Kind: api.ExBool, N: 1} }
func num(n int) api.Expr            { return api.Expr{Kind: api.ExInt, N: n} }
func text(s string) api.Expr        { return api.Expr{Kind: api.ExText, S: s} }
func col(s string) api.Expr         { return api.Expr{Kind: api.ExCol, S: s} }
func colOf(t, s string) api.Expr    { return api.Expr{Kind: api.ExCol, T: t, S: s} }
func variable(s string) api.Expr    { return api.Expr{Kind: api.ExVar, S: s} }
func neg(x api.Expr) api.Expr       { return api.Expr{Kind: api.ExNeg, Kids: one(x)} }
func not(x api.Expr) api.Expr       { return api.Expr{Kind: api.ExNot, Kids: one(x)} }
func is(n int, x api.Expr) api.Expr { return api.Expr{Kind: api.ExIs, N: n, Kids: one(x)} }
func exists(q api.Query) api.Expr   { return api.Expr{Kind: api.ExExists, Q: one(q)} }
func scalar(q api.Query) api.Expr   { return api.Expr{Kind: api.ExScalar, Q: one(q)} }

func in(n int, x api.Expr, q api.Query) api.Expr {
	return api.Expr{Kind: api.ExIn, N: n, Kids: one(x), Q: one(q)}
}

func bin(a api.Expr, mark string, b api.Expr) api.Expr {
	return api.Expr{Kind: api.ExBin, S: mark, Kids: one(a, b)}
}

func choice(a, b, c api.Expr) api.Expr { return api.Expr{Kind: api.ExCase, Kids: one(a, b, c)} }

func agg(name string, kids ...api.Expr) api.Expr {
	return api.Expr{Kind: api.ExAgg, S: name, Kids: kids}
}

func one[T any](l ...T) []T { return l }

// sel is a query of some items, named x, x1, x2 and so on.
func sel(items ...api.Expr) api.Query {
	q := api.Query{Kind: api.QuSelect, Limit: -1}
	for i, e := range items {
		q.Items = append(q.Items, api.Item{E: e, Name: "x" + strings.TrimLeft(fmt.Sprint(i), "0")})
	}
	return q
}

func put(kind int, a, b api.Query) api.Query {
	return api.Query{Kind: kind, Limit: -1, Kids: one(a, b)}
}

func table(name, as string) api.From { return api.From{Kind: api.FrTable, Table: name, As: as} }

func fromQuery(q api.Query, as string) api.From {
	return api.From{Kind: api.FrQuery, As: as, Q: one(q)}
}

func join(kind int, a, b api.From, on api.Expr) api.From {
	return api.From{Kind: kind, Kids: one(a, b), On: one(on)}
}

// numbered are n things, each made of its number.
func numbered[T any](n int, make func(i int) T) []T {
	var out []T
	for i := range n {
		out = append(out, make(i))
	}
	return out
}

var marks = strings.Fields("or and = <> < <= > >= + - || * / %")

// constants are one of each type.
func constants() []api.Expr { return one(null(), yes(), num(7), text("it's")) }

// ourSchema has tables with columns of each type; i1 stands in two of them, and wide has as many columns as there may be.
func ourSchema() api.Schema {
	s, _, err := syntax.Schema("levels low, high; order low < high; channel out low; principal ann low;" +
		"table t rows low (i1 int low, b1 bool high, s1 text null low) key (i1) hide high when i1 = 1;" +
		"table u rows high (i1 int null low, s2 text high);" +
		"table v rows low (b2 bool low, b3 bool low, i2 int low);")
	if err != api.OK {
		panic(err)
	}
	wide := func(name string, n int) api.Table {
		return api.Table{Name: name, Rows: "low", Cols: numbered(n, func(i int) api.Col {
			return api.Col{Name: fmt.Sprint("i", i+100), Type: api.TyInt, Level: "low"}
		})}
	}
	s.Tables = append(s.Tables, wide("wide", api.MaxCols), wide("half", api.MaxCols/2), wide("most", api.MaxCols-1))
	return s
}

// world is what expressions and queries are looked at in.
type world struct {
	s    api.Schema
	c    *schema.Catalog
	vars []api.Var
	cols []api.Place
}

func worldOf(s api.Schema, vars []api.Var, cols []api.Place) world {
	c, _, err := schema.New(s)
	if err != api.OK {
		panic(err)
	}
	return world{s, c, vars, cols}
}

// ours is made once for all tests, which do not change it.
var ours = sync.OnceValue(func() world { return worldOf(ourSchema(), ourVars(), ourPlaces()) })

// ourVars are variables of each type, of which two have the name of one ahead.
func ourVars() []api.Var {
	return []api.Var{{Name: "n", Type: api.TyNull}, {Name: "b", Type: api.TyBool}, {Name: "i", Type: api.TyInt}, {Name: "s", Type: api.TyText}, {Name: "i", Type: api.TyText}, {Name: "b", Type: api.TyInt}}
}

// ourPlaces are columns of each type; both is the name of two.
func ourPlaces() []api.Place {
	return []api.Place{
		{T: "t", Name: "n", Type: api.TyNull}, {T: "t", Name: "b", Type: api.TyBool}, {T: "t", Name: "i", Type: api.TyInt}, {T: "t", Name: "s", Type: api.TyText},
		{T: "t", Name: "both", Type: api.TyInt}, {T: "u", Name: "both", Type: api.TyText}, {Name: "bare", Type: api.TyInt},
		{T: "u", Name: "twin", Type: api.TyInt}, {T: "u", Name: "twin", Type: api.TyInt},
	}
}

func readExpr(t *testing.T, s string) api.Expr {
	t.Helper()
	x, at, err := syntax.Expr(s)
	if err != api.OK {
		t.Fatalf("%q: %d %v", s, at, err)
	}
	return x
}

func readQuery(t *testing.T, s string) api.Query {
	t.Helper()
	q, at, err := syntax.Query(s)
	if err != api.OK {
		t.Fatalf("%q: %d %v", s, at, err)
	}
	return q
}

// typeNames are for people, and for what tests want: a type is told by its word, an error by its own.
var typeNames = map[int]string{api.TyNull: "null", api.TyBool: "bool", api.TyInt: "int", api.TyText: "text"}

var errNames = map[api.Errno]string{
	api.OK: "OK", api.ErrNil: "ErrNil", api.ErrType: "ErrType", api.ErrMany: "ErrMany", api.ErrDeep: "ErrDeep",
	api.ErrForm: "ErrForm", api.ErrName: "ErrName", api.ErrShape: "ErrShape",
}

// kindTold is what Expr answers, as a text.
func kindTold(kind int, err api.Errno) string {
	switch {
	case err == api.OK && typeNames[kind] != "":
		return typeNames[kind]
	case err == api.OK || kind != 0 || errNames[err] == "":
		return fmt.Sprintf("%d beside %d", kind, int(err))
	}
	return errNames[err]
}

// colsTold is what Query answers, as a text: names and types, from the left.
func colsTold(cols []api.Place, err api.Errno) string {
	if err != api.OK {
		if len(cols) != 0 {
			return fmt.Sprintf("%v beside %d", cols, int(err))
		}
		return kindTold(0, err)
	}
	var out []string
	for _, p := range cols {
		name := p.Name
		if p.T != "" {
			name = p.T + "." + name
		}
		out = append(out, name+" "+kindTold(p.Type, err))
	}
	return strings.Join(out, ", ")
}

// exprIs holds what an expression's type is, over our places.
func exprIs(t *testing.T, what string, x api.Expr, want string) {
	t.Helper()
	w := ours()
	if got := kindTold(types.Expr(w.c, w.vars, w.cols, x)); got != want {
		t.Errorf("%s: %s, want %s", what, got, want)
	}
	exprHolds(t, w, x)
}

// queryIs holds what a query's columns are, over our schema.
func queryIs(t *testing.T, what string, q api.Query, want string) {
	t.Helper()
	w := ours()
	if got := colsTold(types.Query(w.c, w.vars, q)); got != want {
		t.Errorf("%s: %s, want %s", what, got, want)
	}
	queryHolds(t, w, q)
}

// copied is a copy that shares nothing with what it is of.
func copied[T any](x T) T { return copyOf(reflect.ValueOf(x)).Interface().(T) }

func copyOf(v reflect.Value) reflect.Value {
	out := reflect.New(v.Type()).Elem()
	out.Set(v)
	switch v.Kind() {
	case reflect.Slice:
		if !v.IsNil() {
			out.Set(reflect.MakeSlice(v.Type(), v.Len(), v.Len()))
		}
		for i := range v.Len() {
			out.Index(i).Set(copyOf(v.Index(i)))
		}
	case reflect.Struct:
		for i := range v.NumField() {
			out.Field(i).Set(copyOf(v.Field(i)))
		}
	}
	return out
}

// with is a copy with a change.
func with[T any](x T, change func(x *T)) T {
	x = copied(x)
	change(&x)
	return x
}
