package algebra_test

import (
	"fmt"
	"slices"
	"strings"

	"cordon/api"
)

// P10.1 a second way: a plan's text is written from the outside in, as the parts of a query stand; what is gathered is listed for itself. It is of expressions and queries that have types.

type writer struct{ s api.Schema }

// spot is where an expression stands: over columns that are named T.Name; behind a group with the places that it is by, and the place of the ExAgg that comes next.
type spot struct {
	names []string
	by    []int
	next  *int
}

func groupless(places []api.Place) spot {
	return spot{names: numbered(len(places), func(i int) string { return places[i].T + "." + places[i].Name })}
}

func (w writer) all(at spot, l []api.Expr) string {
	return listed(l, func(x api.Expr) string { return w.expr(at, x) })
}

func (w writer) expr(at spot, x api.Expr) string {
	switch x.Kind {
	case api.ExNull:
		return "null"
	case api.ExBool:
		return []string{"bool", "bool:1"}[x.N]
	case api.ExInt:
		return fmt.Sprint(x.N)
	case api.ExText:
		return "text" + unless("'", x.S, "'")
	case api.ExCol:
		return "#" + fmt.Sprint(at.place(x))
	case api.ExVar:
		return "var'" + x.S + "'"
	case api.ExNeg:
		return "neg(" + w.all(at, x.Kids) + ")"
	case api.ExNot:
		return "not(" + w.all(at, x.Kids) + ")"
	case api.ExIs:
		return []string{"is(", "is:1("}[x.N] + w.all(at, x.Kids) + ")"
	case api.ExBin:
		return "(" + w.expr(at, x.Kids[0]) + " " + x.S + " " + w.expr(at, x.Kids[1]) + ")"
	case api.ExCase:
		return "case(" + w.all(at, x.Kids) + ")"
	case api.ExExists:
		return "exists{" + w.query(x.Q[0]) + "}"
	case api.ExIn:
		return []string{"in(", "in:1("}[x.N] + w.all(at, x.Kids) + "){" + w.query(x.Q[0]) + "}"
	case api.ExScalar:
		return "scalar{" + w.query(x.Q[0]) + "}"
	case api.ExAgg:
		*at.next++
		return "#" + fmt.Sprint(*at.next-1)
	}
	panic("no such kind")
}

// place is a column's, from the right, so that of two that are such another one is told than the first.
func (at spot) place(x api.Expr) int {
	for i, name := range slices.Backward(at.names) {
		if name != x.T+"."+x.S && (x.T != "" || !strings.HasSuffix(name, "."+x.S)) {
			continue
		}
		for j, key := range at.by {
			if key == i {
				return j
			}
		}
		return i
	}
	panic("no such column")
}

// gatherings are all ExAgg in an expression.
func gatherings(x api.Expr) []api.Expr {
	if x.Kind == api.ExAgg {
		return one(x)
	}
	var out []api.Expr
	for _, kid := range x.Kids {
		out = append(out, gatherings(kid)...)
	}
	return out
}

func (w writer) query(q api.Query) string {
	if q.Kind != api.QuSelect {
		kind := map[int]string{api.QuUnion: "union", api.QuUnionAll: "unionall", api.QuExcept: "except", api.QuIntersect: "intersect"}[q.Kind]
		return kind + "/" + fmt.Sprint(len(head(q).Items)) + "(" + listed(q.Kids, w.query) + ")"
	}
	out, ends := "", ""
	open := func(kind string, width int, more string) {
		out += kind + number("/", width) + more + "("
		ends += ")"
	}
	items := spot{names: numbered(len(q.Items), func(i int) string { return "." + q.Items[i].Name })}
	if q.Limit != -1 {
		open("limit"+number(":", q.Limit), len(q.Items), "")
	}
	if len(q.Order) > 0 {
		keys := listed(q.Order, func(k api.Key) string { return w.expr(items, k.E) })
		desc := fmt.Sprint(numbered(len(q.Order), func(i int) bool { return q.Order[i].Desc }))
		open("order", len(q.Items), "["+keys+"] desc"+desc)
	}
	if q.Distinct {
		open("distinct", len(q.Items), "")
	}
	w.body(q, open)
	from, _ := w.source(q.From)
	return out + from + ends
}

// body opens what stands between the items and what rows come from.
func (w writer) body(q api.Query, open func(kind string, width int, more string)) {
	_, names := w.source(q.From)
	rows := spot{names: names}
	exprs := append(numbered(len(q.Items), func(i int) api.Expr { return q.Items[i].E }), q.Having...)
	var aggs []api.Expr
	for _, x := range exprs {
		aggs = append(aggs, gatherings(x)...)
	}
	told := rows
	for _, x := range q.Group {
		told.by = append(told.by, rows.place(x))
	}
	next, grouped := len(q.Group), len(q.Group)+len(aggs)
	told.next = &next
	open("project", len(q.Items), "["+w.all(told, exprs[:len(q.Items)])+"]")
	if len(q.Having) > 0 {
		open("select", grouped, "["+w.all(told, q.Having)+"]")
	}
	if grouped > 0 {
		by := ""
		if len(q.Group) > 0 {
			by = fmt.Sprint(" by", told.by)
		}
		open("group", grouped, by+unless(" of[", listed(aggs, func(x api.Expr) string { return x.S + "(" + w.all(rows, x.Kids) + ")" }), "]"))
	}
	if len(q.Where) > 0 {
		open("select", len(names), "["+w.all(rows, q.Where)+"]")
	}
}

// head is the query whose names a query has.
func head(q api.Query) api.Query {
	if q.Kind == api.QuSelect {
		return q
	}
	return head(q.Kids[0])
}

func (w writer) source(l []api.From) (string, []string) {
	if len(l) == 0 {
		return "one", nil
	}
	return w.from(l[0])
}

func (w writer) from(f api.From) (string, []string) {
	var names []string
	switch f.Kind {
	case api.FrTable:
		at := slices.IndexFunc(w.s.Tables, func(t api.Table) bool { return t.Name == f.Table })
		for _, c := range w.s.Tables[at].Cols {
			names = append(names, f.As+"."+c.Name)
		}
		return map[bool]string{false: "scan", true: "visible"}[f.Visible] + number(":", at) + number("/", len(names)), names
	case api.FrQuery:
		for _, i := range head(f.Q[0]).Items {
			names = append(names, f.As+"."+i.Name)
		}
		return w.query(f.Q[0]), names
	}
	a, names := w.from(f.Kids[0])
	b, more := w.from(f.Kids[1])
	names = slices.Concat(names, more)
	kind := map[int]string{api.FrJoin: "join", api.FrLeft: "left"}[f.Kind]
	return kind + number("/", len(names)) + "[" + w.all(spot{names: names}, f.On) + "](" + a + ", " + b + ")", names
}
