package engine_test

import (
	"fmt"
	"slices"
	"strconv"
	"strings"
	"sync"
	"testing"

	"cordon/algebra"
	"cordon/api"
	"cordon/engine"
	"cordon/schema"
	"cordon/store"
	"cordon/syntax"
	"cordon/value"
)

type rowOf = []api.Value

func one[T any](l ...T) []T { return l }

// numbered are n things, each made of its number.
func numbered[T any](n int, make func(i int) T) []T {
	var out []T
	for i := range n {
		out = append(out, make(i))
	}
	return out
}

// val is a value, written as Go writes it; nil is null.
func val(x any) api.Value {
	switch y := x.(type) {
	case bool:
		return value.Bool(y)
	case int:
		return value.Int(y)
	case string:
		return value.Text(y)
	}
	return value.Null()
}

func row(l ...any) rowOf { return numbered(len(l), func(i int) api.Value { return val(l[i]) }) }

// upTo are rows of one number each, from 1 on.
func upTo(n int) []rowOf { return numbered(n, func(i int) rowOf { return row(i + 1) }) }

// ourText is a schema with a table that hides rows, one with a key, one whose rows are few, one that has none, and three that are full.
const ourText = "levels low, high; order low < high;" +
	"table t rows low (a int low, b bool null low, s text null low) hide high when b;" +
	"table u rows low (a int null low, c int null low);" +
	"table one rows low (x int low) key (x);" +
	"table e rows low (a int low, s text null low);" +
	"table h rows low (n int low);" +
	"table g rows low (n int low);" +
	"table f rows low (n int low);"

func catalogOf(text string) *schema.Catalog {
	s, at, err := syntax.Schema(text)
	if err != api.OK {
		panic(fmt.Sprint(text, at, err))
	}
	c, at, err := schema.New(s)
	if err != api.OK {
		panic(fmt.Sprint(text, at, err))
	}
	return c
}

func loaded(c *schema.Catalog, tables ...[]rowOf) *store.DB {
	d, at, err := store.Load(c, tables)
	if err != api.OK {
		panic(fmt.Sprint(at, err))
	}
	return d
}

var ourCatalog = sync.OnceValue(func() *schema.Catalog { return catalogOf(ourText) })

// ours is made anew for each call.
func ours() *store.DB {
	return loaded(ourCatalog(),
		one(row(1, false, "x"), row(2, true, "y"), row(2, nil, nil), row(3, false, "x")),
		one(row(1, 10), row(nil, 20), row(2, nil), row(1, 30), row(0, 40)),
		one(row(5)),
		nil,
		upTo(100), upTo(100), upTo(100),
	)
}

// Variables, of which two have the same name; long is a text two of which are too long together, most the greatest number.
const most = 1<<63 - 1

func ourBound() []api.Bound {
	return []api.Bound{
		{Name: "i", Value: val(7)}, {Name: "b", Value: val(true)}, {Name: "s", Value: val("v")}, {Name: "n"}, {Name: "none"},
		{Name: "i", Value: val(8)}, {Name: "long", Value: val(strings.Repeat("l", 501))}, {Name: "most", Value: val(most)}, {Name: "least", Value: val(-most - 1)},
	}
}

func ourVars() []api.Var {
	return []api.Var{
		{Name: "i", Type: api.TyInt}, {Name: "b", Type: api.TyBool}, {Name: "s", Type: api.TyText}, {Name: "n", Type: api.TyNull}, {Name: "none", Type: api.TyInt},
		{Name: "i", Type: api.TyInt}, {Name: "long", Type: api.TyText}, {Name: "most", Type: api.TyInt}, {Name: "least", Type: api.TyInt}, {Name: "unbound", Type: api.TyInt},
	}
}

// ourPlaces are the columns of ourRow.
func ourPlaces() []api.Place {
	return []api.Place{{Name: "a", Type: api.TyInt}, {Name: "b", Type: api.TyBool}, {Name: "s", Type: api.TyText}, {Name: "m", Type: api.TyInt}}
}

func ourRow() rowOf { return row(3, false, "c", nil) }

func planOf(t testing.TB, c *schema.Catalog, text string) api.Plan {
	t.Helper()
	q, at, err := syntax.Query(text)
	if err != api.OK {
		t.Fatalf("%q: %d %v", cut(text), at, err)
	}
	p, err := algebra.Plan(c, ourVars(), q)
	if err != api.OK {
		t.Fatalf("%q: %v", cut(text), err)
	}
	return p
}

func nodeOf(t testing.TB, text string) api.Node {
	t.Helper()
	x, at, err := syntax.Expr(text)
	if err != api.OK {
		t.Fatalf("%q: %d %v", cut(text), at, err)
	}
	n, err := algebra.Node(ourCatalog(), ourVars(), ourPlaces(), x)
	if err != api.OK {
		t.Fatalf("%q: %v", cut(text), err)
	}
	return n
}

// Answers as texts: null true 3 'x' for values; rows in brackets; or the error's name.

var errNames = map[api.Errno]string{
	api.ErrNil: "ErrNil", api.ErrArg: "ErrArg", api.ErrType: "ErrType", api.ErrOver: "ErrOver", api.ErrZero: "ErrZero",
	api.ErrMany: "ErrMany", api.ErrRows: "ErrRows", api.ErrSingle: "ErrSingle",
}

func valueTold(v api.Value) string {
	switch v {
	case val(nil):
		return "null"
	case val(true):
		return "true"
	case val(false):
		return "false"
	case val(v.N):
		return strconv.Itoa(v.N)
	case val(v.S):
		return "'" + v.S + "'"
	}
	return fmt.Sprintf("odd %+v", v)
}

func rowsTold(l []rowOf) string {
	if len(l) == 0 {
		return "none"
	}
	var out []string
	for _, r := range l {
		in := numbered(len(r), func(i int) string { return valueTold(r[i]) })
		out = append(out, "("+strings.Join(in, " ")+")")
	}
	return strings.Join(out, " ")
}

func errTold(told, zero string, err api.Errno) string {
	if told != zero || errNames[err] == "" {
		return fmt.Sprintf("%s beside %d", told, int(err))
	}
	return errNames[err]
}

func valueAnswer(v api.Value, err api.Errno) string {
	if err == api.OK {
		return valueTold(v)
	}
	return errTold(valueTold(v), "null", err)
}

func rowsAnswer(l []rowOf, err api.Errno) string {
	if err == api.OK {
		return rowsTold(l)
	}
	return errTold(rowsTold(l), "none", err)
}

// asks is what a query, as a text, comes to.
func asks(t testing.TB, d *store.DB, text string) string {
	t.Helper()
	return rowsAnswer(engine.Rows(d, ourBound(), planOf(t, d.Catalog(), text)))
}

// reckons is what an expression, as a text, comes to, of our row.
func reckons(t testing.TB, text string) string {
	t.Helper()
	return does(nodeOf(t, text))
}

// does is what a node comes to, of our row.
func does(n api.Node) string { return valueAnswer(engine.Value(ours(), ourBound(), ourRow(), n)) }

// runs is what a plan comes to, over our rows.
func runs(p api.Plan) string { return rowsAnswer(engine.Rows(ours(), ourBound(), p)) }

func check(t testing.TB, what any, got, want string) {
	t.Helper()
	if got != want {
		t.Errorf("%v: %s, not %s", what, cut(got), cut(want))
	}
}

func cut(s string) string { return s[:min(len(s), 400)] }

// answers holds queries, as texts, to what they come to over our rows: of each two texts the first is a query, the second one the answer.
func answers(t *testing.T, texts ...string) {
	t.Helper()
	for two := range slices.Chunk(texts, 2) {
		check(t, cut(two[0]), asks(t, ours(), two[0]), two[1])
	}
}

// values does the same with expressions, of our row.
func values(t *testing.T, texts ...string) {
	t.Helper()
	for two := range slices.Chunk(texts, 2) {
		check(t, cut(two[0]), reckons(t, two[0]), two[1])
	}
}

// Nodes and plans, put together by hand.

func node(kind int, kids ...api.Node) api.Node { return api.Node{Kind: kind, Kids: kids} }

func asking(kind int, p api.Plan, kids ...api.Node) api.Node {
	return api.Node{Kind: kind, Kids: kids, Plans: one(p)}
}

func marked(a api.Node, mark string, b api.Node) api.Node {
	return api.Node{Kind: api.ExBin, S: mark, Kids: one(a, b)}
}

func at(place int) api.Node { return api.Node{Kind: api.ExCol, N: place} }

// constant is the node of a value, written as Go writes it.
func constant(x any) api.Node {
	v := val(x)
	return api.Node{Kind: api.ExNull + v.Type, N: v.N, S: v.S}
}

func scan(table int) api.Plan {
	return api.Plan{Kind: api.PlScan, N: table, Width: len(ourCatalog().Tables()[table].Cols)}
}

func above(kind int, kid api.Plan, e ...api.Node) api.Plan {
	return api.Plan{Kind: kind, Kids: one(kid), E: e, Width: kid.Width}
}

func pair(kind int, a, b api.Plan, e ...api.Node) api.Plan {
	return api.Plan{Kind: kind, Kids: one(a, b), E: e, Width: a.Width + b.Width}
}

// told is a plan that tells these rows, whatever they are.
func told(l ...rowOf) api.Plan {
	line := func(r rowOf) api.Plan {
		nodes := numbered(len(r), func(i int) api.Node { return api.Node{Kind: api.ExNull + r[i].Type, N: r[i].N, S: r[i].S} })
		return api.Plan{Kind: api.PlProject, Kids: one(api.Plan{Kind: api.PlOne}), E: nodes, Width: len(r)}
	}
	if len(l) == 0 {
		return above(api.PlLimit, api.Plan{Kind: api.PlOne})
	}
	p := line(l[0])
	for _, r := range l[1:] {
		p = api.Plan{Kind: api.PlUnionAll, Kids: one(p, line(r)), Width: p.Width}
	}
	return p
}
