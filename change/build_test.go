package change_test

import (
	"fmt"
	"slices"
	"strconv"
	"strings"
	"sync"
	"testing"

	"cordon/algebra"
	"cordon/api"
	"cordon/schema"
	"cordon/store"
	"cordon/syntax"
	"cordon/value"
)

type rowOf = []api.Value

func one[T any](l ...T) []T { return l }

// numbered are n things, each made of its number.
func numbered[T any](n int, make func(i int) T) []T {
	var out []T
	for i := range n {
		out = append(out, make(i))
	}
	return out
}

// val is a value, written as Go writes it; nil is null.
func val(x any) api.Value {
	switch y := x.(type) {
	case bool:
		return value.Bool(y)
	case int:
		return value.Int(y)
	case string:
		return value.Text(y)
	}
	return value.Null()
}

func row(l ...any) rowOf { return numbered(len(l), func(i int) api.Value { return val(l[i]) }) }

// ourText is a schema whose tables have a key (t, that of the chapter's example), a key and a predicate (h), neither (p), a predicate (q), a key and no rows (e), a key and no room (full), and three numbers (w).
const ourText = "levels low, high; order low < high; limit 6;" +
	"table t rows low (a int low, b int low) key (a);" +
	"table h rows low (k int low, f bool null low, s text null low, n int null low) key (k) hide high when f;" +
	"table p rows low (a int null low, b text low);" +
	"table q rows low (a int low, b int null low) hide high when b > 5;" +
	"table e rows low (x int low, y int null low) key (x);" +
	"table full rows low (x int low, y int null low) key (x);" +
	"table w rows low (a int low, b int low, c int null low);"

// The places of these tables.
const (
	tableT = iota
	tableH
	tableP
	tableQ
	tableE
	tableFull
	tableW
	beyond
)

func catalogOf(text string) *schema.Catalog {
	s, at, err := syntax.Schema(text)
	if err != api.OK {
		panic(fmt.Sprint(text, at, err))
	}
	c, at, err := schema.New(s)
	if err != api.OK {
		panic(fmt.Sprint(text, at, err))
	}
	return c
}

func loaded(c *schema.Catalog, tables ...[]rowOf) *store.DB {
	d, at, err := store.Load(c, tables)
	if err != api.OK {
		panic(fmt.Sprint(at, err))
	}
	return d
}

var ourCatalog = sync.OnceValue(func() *schema.Catalog { return catalogOf(ourText) })

// ours is made anew for each call. Of h the second row and the last one are hidden, of q the second.
func ours() *store.DB {
	return loaded(ourCatalog(),
		one(row(1, 5)),
		one(row(1, false, "x", 10), row(1, true, "y", 0), row(2, nil, nil, nil), row(3, true, "z", 30)),
		one(row(0, "x"), row(nil, "y"), row(0, "x"), row(2, "")),
		one(row(1, 1), row(2, 6), row(3, nil)),
		nil,
		numbered(6, func(i int) rowOf { return row(i, nil) }),
		one(row(1, 2, nil), row(3, 0, 4), row(5, 1, 6)),
	)
}

const most = 1<<63 - 1

// Variables, of which two have the same name; long is a text two of which are too long together, most the greatest number.
func ourBound() []api.Bound {
	return []api.Bound{
		{Name: "i", Value: val(7)}, {Name: "b", Value: val(true)}, {Name: "s", Value: val("v")}, {Name: "none"},
		{Name: "i", Value: val(8)}, {Name: "long", Value: val(strings.Repeat("l", 501))}, {Name: "most", Value: val(most)},
	}
}

func ourVars() []api.Var {
	return []api.Var{
		{Name: "i", Type: api.TyInt}, {Name: "b", Type: api.TyBool}, {Name: "s", Type: api.TyText}, {Name: "none", Type: api.TyInt},
		{Name: "i", Type: api.TyInt}, {Name: "long", Type: api.TyText}, {Name: "most", Type: api.TyInt},
	}
}

// placesOf are a table's columns as an expression names them.
func placesOf(r api.Relation) []api.Place {
	return numbered(len(r.Cols), func(i int) api.Place { return api.Place{T: r.Name, Name: r.Cols[i].Name, Type: r.Cols[i].Type} })
}

func nodesOf(t testing.TB, c *schema.Catalog, vars []api.Var, places []api.Place, l []api.Expr) []api.Node {
	t.Helper()
	return numbered(len(l), func(i int) api.Node {
		n, err := algebra.Node(c, vars, places, l[i])
		if err != api.OK {
			t.Fatalf("%+v: %v", l[i], err)
		}
		return n
	})
}

// callOf is the call that a statement, as a text, asks for.
func callOf(t testing.TB, text string) call {
	t.Helper()
	s, at, err := syntax.Script(text + ";")
	if err != api.OK || len(s.Body) != 1 {
		t.Fatalf("%q: %d %v", text, at, err)
	}
	return callOfStmt(t, ourCatalog(), ourVars(), ourBound(), s.Body[0])
}

func callOfStmt(t testing.TB, c *schema.Catalog, vars []api.Var, bound []api.Bound, x api.Stmt) call {
	t.Helper()
	at, is := c.Table(x.Table)
	if !is {
		t.Fatalf("there is no table %s", x.Table)
	}
	of := c.Tables()[at]
	out := call{kind: x.Kind, table: at, vars: bound}
	switch x.Kind {
	case api.StInsert:
		out.nodes = nodesOf(t, c, vars, nil, x.E)
	case api.StInsertQ:
		p, err := algebra.Plan(c, vars, x.Q[0])
		if err != api.OK {
			t.Fatalf("%+v: %v", x.Q[0], err)
		}
		out.plan = p
	case api.StUpdate:
		out.cols = numbered(len(x.Names), func(i int) int {
			return slices.IndexFunc(of.Cols, func(f api.Field) bool { return f.Name == x.Names[i] })
		})
		out.nodes = nodesOf(t, c, vars, placesOf(of), x.E)
		out.where = nodesOf(t, c, vars, placesOf(of), x.Where)
	case api.StDelete:
		out.where = nodesOf(t, c, vars, placesOf(of), x.Where)
	default:
		t.Fatalf("%+v changes no table", x)
	}
	return out
}

// nodeOf is the node of an expression, as a text, over a table's columns.
func nodeOf(t testing.TB, table int, text string) api.Node {
	t.Helper()
	x, at, err := syntax.Expr(text)
	if err != api.OK {
		t.Fatalf("%q: %d %v", text, at, err)
	}
	return nodesOf(t, ourCatalog(), ourVars(), placesOf(ourCatalog().Tables()[table]), one(x))[0]
}

func planOf(t testing.TB, text string) api.Plan {
	t.Helper()
	q, at, err := syntax.Query(text)
	if err != api.OK {
		t.Fatalf("%q: %d %v", text, at, err)
	}
	p, err := algebra.Plan(ourCatalog(), ourVars(), q)
	if err != api.OK {
		t.Fatalf("%q: %v", text, err)
	}
	return p
}

// Answers as texts: null true 3 'x' for values; rows in brackets; how many rows were meant, or the error's name.

var errNames = map[api.Errno]string{
	api.ErrNil: "ErrNil", api.ErrArg: "ErrArg", api.ErrType: "ErrType", api.ErrOver: "ErrOver", api.ErrZero: "ErrZero", api.ErrKey: "ErrKey",
	api.ErrMany: "ErrMany", api.ErrRows: "ErrRows", api.ErrNull: "ErrNull", api.ErrSingle: "ErrSingle", api.ErrShape: "ErrShape",
}

func answerOf(n int, err api.Errno) string {
	switch {
	case err == api.OK:
		return strconv.Itoa(n)
	case n != 0 || errNames[err] == "":
		return fmt.Sprintf("%d beside %d", n, int(err))
	}
	return errNames[err]
}

func valueTold(v api.Value) string {
	switch v {
	case val(nil):
		return "null"
	case val(true):
		return "true"
	case val(false):
		return "false"
	case val(v.N):
		return strconv.Itoa(v.N)
	case val(v.S):
		return "'" + v.S + "'"
	}
	return fmt.Sprintf("odd %+v", v)
}

func told(l []rowOf) string {
	if len(l) == 0 {
		return "none"
	}
	var out []string
	for _, r := range l {
		in := numbered(len(r), func(i int) string { return valueTold(r[i]) })
		out = append(out, "("+strings.Join(in, " ")+")")
	}
	return strings.Join(out, " ")
}

func check(t testing.TB, what any, got, want string) {
	t.Helper()
	if got != want {
		t.Errorf("%v: %s, not %s", what, cut(got), cut(want))
	}
}

func cut(s string) string { return s[:min(len(s), 600)] }

// each holds statements, as texts, to what is answered and what stands in their table then; each is done to our rows as they are at first. Of each three texts the first is the statement, the second the answer, the third the rows (as: as they were).
func each(t *testing.T, texts ...string) {
	t.Helper()
	for three := range slices.Chunk(texts, 3) {
		inTurn(t, ours(), three...)
	}
}

// inTurn does the same with statements that are done one behind the other.
func inTurn(t *testing.T, d *store.DB, texts ...string) {
	t.Helper()
	for three := range slices.Chunk(texts, 3) {
		c := callOf(t, three[0])
		was := told(d.Rows(c.table))
		check(t, three[0], watched(t, d, c), three[1])
		want := three[2]
		if want == "as" {
			want = was
		}
		check(t, three[0]+": rows", told(d.Rows(c.table)), want)
	}
}

// Nodes and plans, put together by hand.

func node(kind int, kids ...api.Node) api.Node { return api.Node{Kind: kind, Kids: kids} }

func at(place int) api.Node { return api.Node{Kind: api.ExCol, N: place} }

// constant is the node of a value, written as Go writes it.
func constant(x any) api.Node {
	v := val(x)
	return api.Node{Kind: api.ExNull + v.Type, N: v.N, S: v.S}
}

// division is a node that raises ErrZero, whatever the row.
func division() api.Node {
	return api.Node{Kind: api.ExBin, S: "/", Kids: one(constant(1), constant(0))}
}

// tooGreat is a node that raises ErrOver, whatever the row.
func tooGreat() api.Node {
	return api.Node{Kind: api.ExBin, S: "+", Kids: one(constant(most), constant(1))}
}
