package types_test

import (
	"fmt"
	"slices"
	"strings"
	"testing"

	"cordon/api"
	"cordon/types"
	"cordon/unparse"
)

// P9.1 and P9.2 a second way: nothing is left off at an error, but all that is wrong is noted, in the chapter's order, and the first note is told. Types are looked up in a list of all that may be.

type judge struct {
	s    api.Schema
	vars []api.Var
	all  []api.Errno
}

func (j *judge) note(is bool, err api.Errno) {
	if is {
		j.all = append(j.all, err)
	}
}

func (j *judge) first() api.Errno { return append(j.all, api.OK)[0] }

// stand is where an expression stands: over which places; with groups: by which of them, as T.Name; and within an ExAgg or not.
type stand struct {
	places []api.Place
	groups bool
	by     []string
	within bool
}

// kindRules are the kids' types (and that of the query's column behind them), and what that makes: null 0, bool 1, int 2, text 3.
var kindRules = map[string]string{
	"neg":     "0>2 2>2",
	"not":     "0>1 1>1",
	"is":      "0>1 1>1 2>1 3>1",
	"logic":   "00>1 01>1 10>1 11>1",
	"number":  "00>2 02>2 20>2 22>2",
	"||":      "00>3 03>3 30>3 33>3",
	"compare": "00>1 01>1 02>1 03>1 10>1 20>1 30>1 11>1 22>1 33>1",
	"in":      "00>1 01>1 02>1 03>1 10>1 20>1 30>1 11>1 22>1 33>1",
	"scalar":  "0>0 1>1 2>2 3>3",
	"case": "000>0 001>1 002>2 003>3 010>1 020>2 030>3 011>1 022>2 033>3 " +
		"100>0 101>1 102>2 103>3 110>1 120>2 130>3 111>1 122>2 133>3",
	"count": ">2 0>2 1>2 2>2 3>2",
	"sum":   "0>2 2>2",
	"min":   "0>0 1>1 2>2 3>3",
	"max":   "0>0 1>1 2>2 3>3",
	"null":  ">0",
	"true":  ">1",
	"int":   ">2",
	"text":  ">3",
}

// ruleOf is the name of the rule for an expression.
func ruleOf(x api.Expr) string {
	switch x.Kind {
	case api.ExAgg:
		return x.S
	case api.ExBin:
		switch x.S {
		case "||":
			return x.S
		case "or", "and":
			return "logic"
		case "+", "-", "*", "/", "%":
			return "number"
		}
		return "compare"
	}
	return map[int]string{
		api.ExNull: "null", api.ExBool: "true", api.ExInt: "int", api.ExText: "text", api.ExNeg: "neg", api.ExNot: "not", api.ExIs: "is",
		api.ExCase: "case", api.ExExists: "true", api.ExIn: "in", api.ExScalar: "scalar",
	}[x.Kind]
}

// ruled is what a rule makes of some types.
func ruled(rule, of string) (int, bool) {
	for _, r := range strings.Fields(kindRules[rule]) {
		if from, makes, _ := strings.Cut(r, ">"); from == of {
			return int(makes[0] - '0'), true
		}
	}
	return 0, false
}

func (j *judge) expr(at stand, x api.Expr) int {
	switch x.Kind {
	case api.ExCol:
		return j.column(at, x)
	case api.ExVar:
		for _, v := range j.vars {
			if v.Name == x.S {
				return v.Type
			}
		}
		j.note(true, api.ErrName)
		return api.TyNull
	case api.ExAgg:
		j.note(!at.groups || at.within, api.ErrShape)
		at.within = true
	}
	of := ""
	for _, kid := range x.Kids {
		of += fmt.Sprint(j.expr(at, kid))
	}
	for _, q := range x.Q {
		cols := j.query(q)
		if x.Kind == api.ExExists {
			continue
		}
		j.note(len(cols) != 1, api.ErrShape)
		for _, p := range cols {
			of += fmt.Sprint(p.Type)
		}
	}
	kind, ok := ruled(ruleOf(x), of)
	j.note(!ok, api.ErrType)
	return kind
}

func (j *judge) column(at stand, x api.Expr) int {
	found := slices.DeleteFunc(slices.Clone(at.places), func(p api.Place) bool { return p.Name != x.S || x.T != "" && p.T != x.T })
	j.note(len(found) != 1, api.ErrName)
	if len(found) == 0 {
		return api.TyNull
	}
	by := slices.Contains(at.by, found[0].T+"."+found[0].Name)
	j.note(at.groups && !at.within && !by, api.ErrShape)
	return found[0].Type
}

func (j *judge) logical(at stand, l []api.Expr) {
	for _, x := range l {
		kind := j.expr(at, x)
		j.note(kind != api.TyBool && kind != api.TyNull, api.ErrType)
	}
}

func (j *judge) query(q api.Query) []api.Place {
	if q.Kind == api.QuSelect {
		return j.selected(q)
	}
	a, b := j.query(q.Kids[0]), j.query(q.Kids[1])
	j.note(len(a) != len(b), api.ErrType)
	var out []api.Place
	for i := range min(len(a), len(b)) {
		kind, ok := ruled("case", fmt.Sprintf("0%d%d", a[i].Type, b[i].Type))
		j.note(!ok, api.ErrType)
		out = append(out, api.Place{Name: a[i].Name, Type: kind})
	}
	return out
}

func (j *judge) selected(q api.Query) []api.Place {
	var rows stand
	for _, f := range q.From {
		rows.places = j.from(f)
	}
	j.logical(rows, q.Where)
	parts := slices.Clone(q.Having)
	for _, i := range q.Items {
		parts = append(parts, i.E)
	}
	groups := rows
	groups.groups = len(q.Group) > 0 || slices.ContainsFunc(parts, holdsAgg)
	for _, x := range q.Group {
		j.note(x.Kind != api.ExCol, api.ErrShape)
		j.column(rows, x)
		for _, p := range rows.places {
			if p.Name == x.S && (x.T == "" || p.T == x.T) {
				groups.by = append(groups.by, p.T+"."+p.Name)
			}
		}
	}
	j.note(len(q.Items) > api.MaxCols, api.ErrMany)
	var out []api.Place
	for _, i := range q.Items {
		out = append(out, api.Place{Name: i.Name, Type: j.expr(groups, i.E)})
	}
	j.logical(groups, q.Having)
	for _, k := range q.Order {
		j.expr(stand{places: out}, k.E)
	}
	return out
}

func holdsAgg(x api.Expr) bool {
	return x.Kind == api.ExAgg || slices.ContainsFunc(x.Kids, holdsAgg)
}

func (j *judge) from(f api.From) []api.Place {
	var out []api.Place
	switch f.Kind {
	case api.FrTable:
		at := slices.IndexFunc(j.s.Tables, func(x api.Table) bool { return x.Name == f.Table })
		j.note(at < 0, api.ErrName)
		if at >= 0 {
			for _, c := range j.s.Tables[at].Cols {
				out = append(out, api.Place{T: f.As, Name: c.Name, Type: c.Type})
			}
		}
	case api.FrQuery:
		for _, p := range j.query(f.Q[0]) {
			out = append(out, api.Place{T: f.As, Name: p.Name, Type: p.Type})
		}
	default:
		a, b := j.from(f.Kids[0]), j.from(f.Kids[1])
		for _, p := range b {
			j.note(slices.ContainsFunc(a, func(o api.Place) bool { return o.T == p.T }), api.ErrName)
		}
		out = slices.Concat(a, b)
		j.note(len(out) > api.MaxCols, api.ErrMany)
		j.logical(stand{places: out}, f.On)
	}
	return out
}

// exprHolds holds Expr against the judge, and tells whether there is a type.
func exprHolds(t *testing.T, w world, x api.Expr) bool {
	t.Helper()
	kind, want := judgedExpr(w, x)
	if got, want := kindTold(types.Expr(w.c, w.vars, w.cols, x)), kindTold(kind, want); got != want {
		t.Errorf("%s, want %s of %s", got, want, textOf(unparse.Expr(x)))
	}
	return want == api.OK
}

func judgedExpr(w world, x api.Expr) (int, api.Errno) {
	if _, err := unparse.Expr(x); err != api.OK {
		return 0, err
	}
	j := &judge{s: w.s, vars: w.vars}
	kind := j.expr(stand{places: w.cols}, x)
	if err := j.first(); err != api.OK {
		return 0, err
	}
	return kind, api.OK
}

// queryHolds holds Query against the judge, and tells whether there are columns.
func queryHolds(t *testing.T, w world, q api.Query) bool {
	t.Helper()
	cols, want := judgedQuery(w, q)
	if got, want := colsTold(types.Query(w.c, w.vars, q)), colsTold(cols, want); got != want {
		t.Errorf("%s, want %s of %s", got, want, textOf(unparse.Query(q)))
	}
	return want == api.OK
}

func judgedQuery(w world, q api.Query) ([]api.Place, api.Errno) {
	if _, err := unparse.Query(q); err != api.OK {
		return nil, err
	}
	j := &judge{s: w.s, vars: w.vars}
	cols := j.query(q)
	if err := j.first(); err != api.OK {
		return nil, err
	}
	return cols, api.OK
}

// textOf is a text for people.
func textOf(s string, err api.Errno) string {
	if err != api.OK {
		return err.Error()
	}
	return s
}
