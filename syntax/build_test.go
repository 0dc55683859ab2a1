package syntax_test

import (
	"encoding/json"
	"reflect"
	"strings"
	"testing"

	"cordon/api"
	"cordon/syntax"
)

// What is read, put together by hand.

func null() api.Expr                 { return api.Expr{Kind: api.ExNull} }
func yes() api.Expr                  { return api.Expr{Kind: api.ExBool, N: 1} }
func no() api.Expr                   { return api.Expr{Kind: api.ExBool} }
func num(n int) api.Expr             { return api.Expr{Kind: api.ExInt, N: n} }
func text(s string) api.Expr         { return api.Expr{Kind: api.ExText, S: s} }
func col(s string) api.Expr          { return api.Expr{Kind: api.ExCol, S: s} }
func colOf(t, s string) api.Expr     { return api.Expr{Kind: api.ExCol, T: t, S: s} }
func variable(s string) api.Expr     { return api.Expr{Kind: api.ExVar, S: s} }
func neg(x api.Expr) api.Expr        { return api.Expr{Kind: api.ExNeg, Kids: []api.Expr{x}} }
func not(x api.Expr) api.Expr        { return api.Expr{Kind: api.ExNot, Kids: []api.Expr{x}} }
func is(n int, x api.Expr) api.Expr  { return api.Expr{Kind: api.ExIs, N: n, Kids: []api.Expr{x}} }
func exists(q api.Query) api.Expr    { return api.Expr{Kind: api.ExExists, Q: []api.Query{q}} }
func scalar(q api.Query) api.Expr    { return api.Expr{Kind: api.ExScalar, Q: []api.Query{q}} }
func pair(low, high string) api.Pair { return api.Pair{Low: low, High: high} }

func in(n int, x api.Expr, q api.Query) api.Expr {
	return api.Expr{Kind: api.ExIn, N: n, Kids: []api.Expr{x}, Q: []api.Query{q}}
}

func bin(a api.Expr, mark string, b api.Expr) api.Expr {
	return api.Expr{Kind: api.ExBin, S: mark, Kids: []api.Expr{a, b}}
}

func choice(a, b, c api.Expr) api.Expr {
	return api.Expr{Kind: api.ExCase, Kids: []api.Expr{a, b, c}}
}

func agg(name string, kids ...api.Expr) api.Expr {
	return api.Expr{Kind: api.ExAgg, S: name, Kids: kids}
}

func item(e api.Expr, name string) api.Item { return api.Item{E: e, Name: name} }

func sel(items ...api.Item) api.Query {
	return api.Query{Kind: api.QuSelect, Items: items, Limit: -1}
}

// selA is select a as x, and so on.
func selA(name string) api.Query { return sel(item(col(name), "x")) }

func with(q api.Query, change func(q *api.Query)) api.Query {
	change(&q)
	return q
}

func from(f api.From) api.Query {
	return with(selA("a"), func(q *api.Query) { q.From = []api.From{f} })
}

func put(kind int, a, b api.Query) api.Query {
	return api.Query{Kind: kind, Limit: -1, Kids: []api.Query{a, b}}
}

func table(name string) api.From { return api.From{Kind: api.FrTable, Table: name, As: name} }

func join(kind int, a, b api.From, on api.Expr) api.From {
	return api.From{Kind: kind, Kids: []api.From{a, b}, On: []api.Expr{on}}
}

// read is one of the four calls, whose answer is taken as of any type.
type read struct {
	name  string
	start string // the grammar's name of what it reads
	call  func(s string) (any, int, api.Errno)
}

func anyOf[T any](call func(s string) (T, int, api.Errno)) func(s string) (any, int, api.Errno) {
	return func(s string) (any, int, api.Errno) {
		out, at, err := call(s)
		return out, at, err
	}
}

func exprs() read     { return read{"Expr", "Expr", anyOf(syntax.Expr)} }
func queries() read   { return read{"Query", "Query", anyOf(syntax.Query)} }
func scripts() read   { return read{"Script", "Script", anyOf(syntax.Script)} }
func schemas() read   { return read{"Schema", "Schema", anyOf(syntax.Schema)} }
func allFour() []read { return []read{exprs(), queries(), scripts(), schemas()} }

// short is a text for people: the front and the end of it, if it is long.
func short(s string) string {
	if len(s) > 300 {
		return s[:200] + " .. " + s[len(s)-90:]
	}
	return s
}

// told is an answer as a text, in which a list without members is the same whether it is nil or empty.
func told(x any) string {
	b, err := json.Marshal(x)
	if err != nil {
		return err.Error()
	}
	return strings.ReplaceAll(string(b), "[]", "null")
}

func same(a, b any) bool { return reflect.DeepEqual(a, b) || told(a) == told(b) }

func isZero(x any) bool { return same(x, reflect.Zero(reflect.TypeOf(x)).Interface()) }

func reads(t *testing.T, r read, s string, want any) {
	t.Helper()
	got, at, err := r.call(s)
	if at != 0 || err != api.OK {
		t.Errorf("%s %q: %d %v, want it read", r.name, short(s), at, err)
	} else if !same(got, want) {
		t.Errorf("%s %q:\n got %s\nwant %s", r.name, short(s), short(told(got)), short(told(want)))
	}
}

func refuses(t *testing.T, r read, s string, wantAt int, wantErr api.Errno) {
	t.Helper()
	got, at, err := r.call(s)
	if at != wantAt || err != wantErr {
		t.Errorf("%s %q: %d %v, want %d %v", r.name, short(s), at, err, wantAt, wantErr)
	}
	if err != api.OK && !isZero(got) {
		t.Errorf("%s %q: %v and %s", r.name, short(s), err, short(told(got)))
	}
}

// refusesHere refuses a text at the place where a § stands in it.
func refusesHere(t *testing.T, r read, marked string, wantErr api.Errno) {
	t.Helper()
	ahead, behind, ok := strings.Cut(marked, "§")
	if !ok {
		t.Fatalf("no place is marked in %q", marked)
	}
	refuses(t, r, ahead+behind, len(ahead), wantErr)
}
