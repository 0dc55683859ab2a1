package algebra_test

import (
	"fmt"
	"reflect"
	"strings"
	"sync"
	"testing"

	"cordon/api"
	"cordon/schema"
	"cordon/syntax"
)

// What is handed in, put together by hand.

func one[T any](l ...T) []T { return l }

func null() api.Expr             { return api.Expr{Kind: api.ExNull} }
func yes() api.Expr              { return api.Expr{Kind: api.ExBool, N: 1} }
func num(n int) api.Expr         { return api.Expr{Kind: api.ExInt, N: n} }
func text(s string) api.Expr     { return api.Expr{Kind: api.ExText, S: s} }
func col(s string) api.Expr      { return api.Expr{Kind: api.ExCol, S: s} }
func colOf(t, s string) api.Expr { return api.Expr{Kind: api.ExCol, T: t, S: s} }
func variable(s string) api.Expr { return api.Expr{Kind: api.ExVar, S: s} }

func bin(a api.Expr, mark string, b api.Expr) api.Expr {
	return api.Expr{Kind: api.ExBin, S: mark, Kids: one(a, b)}
}

func agg(name string, kids ...api.Expr) api.Expr {
	return api.Expr{Kind: api.ExAgg, S: name, Kids: kids}
}

func scalar(q api.Query) api.Expr { return api.Expr{Kind: api.ExScalar, Q: one(q)} }

func sel(items ...api.Expr) api.Query {
	q := api.Query{Kind: api.QuSelect, Limit: -1}
	for _, e := range items {
		q.Items = append(q.Items, api.Item{E: e, Name: "x"})
	}
	return q
}

func table(name, as string) api.From { return api.From{Kind: api.FrTable, Table: name, As: as} }

// numbered are n things, each made of its number.
func numbered[T any](n int, make func(i int) T) []T {
	var out []T
	for i := range n {
		out = append(out, make(i))
	}
	return out
}

var marks = strings.Fields("or and = <> < <= > >= + - || * / %")

// ourSchema has tables with columns of each type, whose names begin with a letter of it; i1 stands in two of them.
func ourSchema() api.Schema {
	s, _, err := syntax.Schema("levels low, high; order low < high; channel out low; principal ann low;" +
		"table t rows low (i1 int low, b1 bool high, s1 text null low) hide high when i1 = 1;" +
		"table u rows high (i1 int null low, s2 text high);" +
		"table v rows low (b2 bool low, b3 bool low, i2 int low, i3 int null low);")
	if err != api.OK {
		panic(err)
	}
	return s
}

// world is what expressions and queries are made over.
type world struct {
	s    api.Schema
	c    *schema.Catalog
	vars []api.Var
	cols []api.Place
}

func worldOf(s api.Schema, vars []api.Var, cols []api.Place) world {
	c, _, err := schema.New(s)
	if err != api.OK {
		panic(err)
	}
	return world{s, c, vars, cols}
}

// ours is made once for all tests, which do not change it.
var ours = sync.OnceValue(func() world { return worldOf(ourSchema(), ourVars(), ourPlaces()) })

func ourVars() []api.Var {
	return []api.Var{{Name: "n", Type: api.TyNull}, {Name: "b", Type: api.TyBool}, {Name: "i", Type: api.TyInt}, {Name: "s", Type: api.TyText}, {Name: "i", Type: api.TyText}}
}

// ourPlaces are columns of each type; both is the name of two, that are told apart by their T.
func ourPlaces() []api.Place {
	return []api.Place{
		{T: "t", Name: "n", Type: api.TyNull}, {T: "t", Name: "b", Type: api.TyBool}, {T: "t", Name: "i", Type: api.TyInt}, {T: "t", Name: "s", Type: api.TyText},
		{T: "t", Name: "both", Type: api.TyInt}, {T: "u", Name: "both", Type: api.TyText}, {Name: "bare", Type: api.TyInt}, {T: "u", Name: "i", Type: api.TyInt},
		{T: "u", Name: "last", Type: api.TyBool},
	}
}

func readExpr(t *testing.T, s string) api.Expr {
	t.Helper()
	x, at, err := syntax.Expr(s)
	if err != api.OK {
		t.Fatalf("%q: %d %v", s, at, err)
	}
	return x
}

func readQuery(t *testing.T, s string) api.Query {
	t.Helper()
	q, at, err := syntax.Query(s)
	if err != api.OK {
		t.Fatalf("%q: %d %v", s, at, err)
	}
	return q
}

// Nodes and plans as texts: all that is not zero is told, so that two texts are the same just if nodes and plans are, but for lists that are nil or empty.

func listed[T any](l []T, tell func(x T) string) string {
	var out []string
	for _, x := range l {
		out = append(out, tell(x))
	}
	return strings.Join(out, ", ")
}

// unless is a text with something ahead and behind, or nothing, if it is empty.
func unless(ahead, s, behind string) string {
	if s == "" {
		return ""
	}
	return ahead + s + behind
}

func number(ahead string, n int) string {
	if n == 0 {
		return ""
	}
	return ahead + fmt.Sprint(n)
}

var nodeNames = strings.Fields("none null bool int text col var neg not is bin case exists in scalar agg")

var planNames = strings.Fields("none one scan visible select project join left group distinct order limit unionall union except intersect")

func kindName(names []string, kind int) string {
	if kind < 0 || kind >= len(names) {
		return fmt.Sprint("kind", kind)
	}
	return names[kind]
}

func nodeTold(n api.Node) string {
	switch {
	case n.Kind == api.ExCol && n.S == "" && len(n.Kids)+len(n.Plans) == 0:
		return fmt.Sprint("#", n.N)
	case n.Kind == api.ExInt && n.S == "" && len(n.Kids)+len(n.Plans) == 0:
		return fmt.Sprint(n.N)
	case n.Kind == api.ExBin && n.N == 0 && n.S != "" && len(n.Kids) == 2 && len(n.Plans) == 0:
		return "(" + nodeTold(n.Kids[0]) + " " + n.S + " " + nodeTold(n.Kids[1]) + ")"
	}
	s := kindName(nodeNames, n.Kind) + number(":", n.N)
	if n.S != "" {
		s += "'" + n.S + "'"
	}
	return s + unless("(", listed(n.Kids, nodeTold), ")") + unless("{", listed(n.Plans, planTold), "}")
}

func gatherTold(g api.Gather) string { return g.Fn + "(" + listed(g.E, nodeTold) + ")" }

func planTold(p api.Plan) string {
	s := kindName(planNames, p.Kind) + number(":", p.N) + number("/", p.Width)
	if len(p.Keys) > 0 {
		s += fmt.Sprint(" by", p.Keys)
	}
	s += unless(" of[", listed(p.Aggs, gatherTold), "]")
	s += unless("[", listed(p.E, nodeTold), "]")
	if len(p.Desc) > 0 {
		s += fmt.Sprint(" desc", p.Desc)
	}
	return s + unless("(", listed(p.Kids, planTold), ")")
}

var errNames = map[api.Errno]string{
	api.ErrNil: "ErrNil", api.ErrType: "ErrType", api.ErrMany: "ErrMany", api.ErrDeep: "ErrDeep",
	api.ErrForm: "ErrForm", api.ErrName: "ErrName", api.ErrShape: "ErrShape",
}

// nodeAnswer is what Node answers, as a text.
func nodeAnswer(n api.Node, err api.Errno) string {
	if err == api.OK {
		return nodeTold(n)
	}
	return answer(nodeTold(n), nodeTold(api.Node{}), err)
}

// planAnswer is what Plan answers, as a text.
func planAnswer(p api.Plan, err api.Errno) string {
	if err == api.OK {
		return planTold(p)
	}
	return answer(planTold(p), planTold(api.Plan{}), err)
}

func answer(got, zero string, err api.Errno) string {
	if got != zero || errNames[err] == "" {
		return fmt.Sprintf("%s beside %d", got, int(err))
	}
	return errNames[err]
}

// copied is a copy that shares nothing with what it is of.
func copied[T any](x T) T { return copyOf(reflect.ValueOf(x)).Interface().(T) }

func copyOf(v reflect.Value) reflect.Value {
	out := reflect.New(v.Type()).Elem()
	out.Set(v)
	switch v.Kind() {
	case reflect.Slice:
		if !v.IsNil() {
			out.Set(reflect.MakeSlice(v.Type(), v.Len(), v.Len()))
		}
		for i := range v.Len() {
			out.Index(i).Set(copyOf(v.Index(i)))
		}
	case reflect.Struct:
		for i := range v.NumField() {
			out.Field(i).Set(copyOf(v.Field(i)))
		}
	}
	return out
}

// with is a copy with a change.
func with[T any](x T, change func(x *T)) T {
	x = copied(x)
	change(&x)
	return x
}
