package engine_test

import (
	"cmp"
	"math/big"
	"slices"
	"sort"
	"strings"

	"cordon/api"
)

// A second way, that does queries and expressions as they are read, without plans, over values as Go has them (nil, bool, int, string); each query is done as often as it is asked for. An error is a panic on the way.

type lineOf = []any

type model struct {
	tables []api.Relation
	rows   [][]lineOf
	vars   []api.Bound
}

// seen is what an expression sees: a row under names, and what was gathered of a group.
type seen struct {
	places []api.Place
	line   lineOf
	aggs   []any
}

func asGo(v api.Value) any {
	switch v.Type {
	case api.TyBool:
		return v.N == 1
	case api.TyInt:
		return v.N
	case api.TyText:
		return v.S
	}
	return nil
}

func line(r rowOf) lineOf { return numbered(len(r), func(i int) any { return asGo(r[i]) }) }

func lines(l []rowOf) []lineOf { return numbered(len(l), func(i int) lineOf { return line(l[i]) }) }

// caught is what something comes to as a text, or the error's name.
func caught(do func() string) (out string) {
	defer func() {
		switch r := recover().(type) {
		case nil:
		case api.Errno:
			out = errNames[r]
		default:
			panic(r)
		}
	}()
	return do()
}

// asksOf is what a query comes to, as engine's answers are told.
func (m model) asksOf(q api.Query) string {
	return caught(func() string {
		_, l := m.query(q)
		return rowsTold(numbered(len(l), func(i int) rowOf { return row(l[i]...) }))
	})
}

func (m model) reckonsOf(x api.Expr, places []api.Place, r rowOf) string {
	return caught(func() string { return valueTold(val(m.expr(x, seen{places: places, line: line(r)}))) })
}

// before is how two values stand: null, truths, numbers, texts.
func before(a, b any) int {
	kind := func(x any) int { return val(x).Type }
	if kind(a) != kind(b) {
		return cmp.Compare(kind(a), kind(b))
	}
	switch x := a.(type) {
	case bool:
		switch y := b.(bool); {
		case x == y:
			return 0
		case y:
			return -1
		}
		return 1
	case int:
		return big.NewInt(int64(x)).Cmp(big.NewInt(int64(b.(int))))
	case string:
		return strings.Compare(x, b.(string))
	}
	return 0
}

func (m model) expr(x api.Expr, s seen) any {
	kid := func(i int) any { return m.expr(x.Kids[i], s) }
	switch x.Kind {
	case api.ExNull:
		return nil
	case api.ExBool:
		return x.N == 1
	case api.ExInt:
		return x.N
	case api.ExText:
		return x.S
	case api.ExCol:
		return m.column(x, s)
	case api.ExVar:
		for _, v := range m.vars {
			if v.Name == x.S {
				return asGo(v.Value)
			}
		}
		return nil
	case api.ExNeg:
		return number("-", 0, kid(0))
	case api.ExNot:
		return negated(kid(0))
	case api.ExIs:
		if v := kid(0); x.N == 1 {
			return v != nil
		} else {
			return v == nil
		}
	case api.ExBin:
		a := kid(0)
		b := kid(1)
		return operated(x.S, a, b)
	case api.ExCase:
		if kid(0) == true {
			return kid(1)
		}
		return kid(2)
	}
	return m.queried(x, s)
}

func (m model) column(x api.Expr, s seen) any {
	if x.T == "#" {
		return s.aggs[x.N]
	}
	for i, p := range s.places {
		if p.Name == x.S && (x.T == "" || p.T == x.T) {
			return s.line[i]
		}
	}
	panic("no such column " + x.S)
}

func negated(v any) any {
	if v == nil {
		return nil
	}
	return !v.(bool)
}

func operated(mark string, a, b any) any {
	switch mark {
	case "and", "or":
		wins := mark == "or"
		switch {
		case a == wins || b == wins:
			return wins
		case a == nil || b == nil:
			return nil
		}
		return !wins
	case "+", "-", "*", "/", "%":
		return number(mark, a, b)
	}
	if a == nil || b == nil {
		return nil
	}
	order := before(a, b)
	switch mark {
	case "||":
		s := a.(string) + b.(string)
		if len(s) > api.MaxText {
			panic(api.ErrMany)
		}
		return s
	case "=":
		return order == 0
	case "<>":
		return order != 0
	case "<":
		return order < 0
	case "<=":
		return order <= 0
	case ">":
		return order > 0
	case ">=":
		return order >= 0
	}
	panic("no such mark " + mark)
}

// number reckons without bounds, and looks at these at the end.
func number(mark string, a, b any) any {
	if a == nil || b == nil {
		return nil
	}
	x, y, n := big.NewInt(int64(a.(int))), big.NewInt(int64(b.(int))), new(big.Int)
	switch mark {
	case "+":
		n.Add(x, y)
	case "-":
		n.Sub(x, y)
	case "*":
		n.Mul(x, y)
	default:
		if y.Sign() == 0 {
			panic(api.ErrZero)
		}
		rest := new(big.Int)
		if n.QuoRem(x, y, rest); mark == "%" {
			n = rest
		}
	}
	if !n.IsInt64() {
		panic(api.ErrOver)
	}
	return int(n.Int64())
}

func (m model) queried(x api.Expr, s seen) any {
	var kid any
	if x.Kind == api.ExIn {
		kid = m.expr(x.Kids[0], s)
	}
	_, l := m.query(x.Q[0])
	switch {
	case x.Kind == api.ExExists:
		return len(l) > 0
	case x.Kind == api.ExScalar && len(l) > 1:
		panic(api.ErrSingle)
	case x.Kind == api.ExScalar && len(l) == 1:
		return l[0][0]
	case x.Kind == api.ExScalar:
		return nil
	}
	var is any = false
	for _, r := range l {
		if kid == nil || r[0] == nil {
			is = nil
		}
	}
	if kid != nil && slices.ContainsFunc(l, func(r lineOf) bool { return r[0] == kid }) {
		is = true
	}
	if x.N == 1 {
		return negated(is)
	}
	return is
}

func sameLine(a, b lineOf) bool {
	return slices.EqualFunc(a, b, func(x, y any) bool { return before(x, y) == 0 })
}

func hasLine(l []lineOf, r lineOf) bool {
	return slices.ContainsFunc(l, func(o lineOf) bool { return sameLine(o, r) })
}

func onceOnly(l []lineOf) []lineOf {
	var out []lineOf
	for _, r := range l {
		if !hasLine(out, r) {
			out = append(out, r)
		}
	}
	return out
}

// query is what a query comes to, and its columns' names.
func (m model) query(q api.Query) ([]api.Place, []lineOf) {
	if q.Kind == api.QuSelect {
		return m.selected(q)
	}
	names, a := m.query(q.Kids[0])
	_, b := m.query(q.Kids[1])
	var out []lineOf
	switch q.Kind {
	case api.QuUnion, api.QuUnionAll:
		if len(a)+len(b) > api.MaxResult {
			panic(api.ErrRows)
		}
		if out = slices.Concat(a, b); q.Kind == api.QuUnion {
			out = onceOnly(out)
		}
	default:
		for _, r := range onceOnly(a) {
			if hasLine(b, r) == (q.Kind == api.QuIntersect) {
				out = append(out, r)
			}
		}
	}
	return names, out
}

// kept are those of which a condition is true, if there is one.
func (m model) kept(l []seen, where []api.Expr) []seen {
	var out []seen
	for _, s := range l {
		if len(where) == 0 || m.expr(where[0], s) == true {
			out = append(out, s)
		}
	}
	return out
}

func (m model) selected(q api.Query) ([]api.Place, []lineOf) {
	l := one(seen{})
	if len(q.From) > 0 {
		l = m.from(q.From[0])
	}
	l = m.kept(l, q.Where)
	var aggs []api.Expr
	items := numbered(len(q.Items), func(i int) api.Expr { return parted(q.Items[i].E, &aggs) })
	having := numbered(len(q.Having), func(i int) api.Expr { return parted(q.Having[i], &aggs) })
	if len(aggs) > 0 || len(q.Group) > 0 {
		l = m.grouped(l, q.Group, aggs)
	}
	l = m.kept(l, having)
	out := numbered(len(l), func(i int) lineOf { return m.each(items, l[i]) })
	if q.Distinct {
		out = onceOnly(out)
	}
	names := numbered(len(q.Items), func(i int) api.Place { return api.Place{Name: q.Items[i].Name} })
	out = m.sorted(q.Order, names, out)
	if q.Limit >= 0 {
		out = out[:min(q.Limit, len(out))]
	}
	return names, out
}

func (m model) each(l []api.Expr, s seen) lineOf {
	return numbered(len(l), func(i int) any { return m.expr(l[i], s) })
}

// parted is an expression in which what is gathered is named by its number.
func parted(x api.Expr, aggs *[]api.Expr) api.Expr {
	if x.Kind == api.ExAgg {
		*aggs = append(*aggs, x)
		return api.Expr{Kind: api.ExCol, T: "#", N: len(*aggs) - 1}
	}
	x.Kids = numbered(len(x.Kids), func(i int) api.Expr { return parted(x.Kids[i], aggs) })
	return x
}

// grouped are the first rows of all groups, with what is gathered of them.
func (m model) grouped(l []seen, by, aggs []api.Expr) []seen {
	kids := numbered(len(l), func(i int) lineOf {
		return numbered(len(aggs), func(j int) any {
			if len(aggs[j].Kids) == 0 {
				return true
			}
			return m.expr(aggs[j].Kids[0], l[i])
		})
	})
	var heads []seen
	var keys []lineOf
	var of [][]int
	if len(by) == 0 {
		heads, keys, of = one(seen{}), one(lineOf(nil)), one([]int(nil))
	}
	for i, s := range l {
		key := m.each(by, s)
		at := slices.IndexFunc(keys, func(o lineOf) bool { return sameLine(o, key) })
		if at < 0 {
			at = len(keys)
			heads, keys, of = append(heads, s), append(keys, key), append(of, nil)
		}
		of[at] = append(of[at], i)
	}
	for i := range heads {
		for j, agg := range aggs {
			heads[i].aggs = append(heads[i].aggs, folded(agg.S, numbered(len(of[i]), func(k int) any { return kids[of[i][k]][j] })))
		}
	}
	return heads
}

func folded(fn string, l []any) any {
	l = slices.DeleteFunc(l, func(v any) bool { return v == nil })
	switch {
	case fn == "count":
		return len(l)
	case len(l) == 0:
		return nil
	case fn == "min":
		return slices.MinFunc(l, before)
	case fn == "max":
		return slices.MaxFunc(l, before)
	}
	out := l[0]
	for _, v := range l[1:] {
		out = number("+", out, v)
	}
	return out
}

func (m model) sorted(order []api.Key, names []api.Place, l []lineOf) []lineOf {
	type keyed struct{ key, line lineOf }
	all := numbered(len(l), func(i int) keyed {
		return keyed{numbered(len(order), func(j int) any { return m.expr(order[j].E, seen{places: names, line: l[i]}) }), l[i]}
	})
	sort.SliceStable(all, func(i, j int) bool {
		for k, by := range order {
			switch o := before(all[i].key[k], all[j].key[k]); {
			case o != 0 && by.Desc:
				return o > 0
			case o != 0:
				return o < 0
			}
		}
		return false
	})
	return numbered(len(all), func(i int) lineOf { return all[i].line })
}

// placesOf are the names under which what rows come from is seen, also if there are none.
func (m model) placesOf(f api.From) []api.Place {
	switch f.Kind {
	case api.FrTable:
		cols := m.tables[m.table(f.Table)].Cols
		return numbered(len(cols), func(i int) api.Place { return api.Place{T: f.As, Name: cols[i].Name} })
	case api.FrQuery:
		q := f.Q[0]
		for q.Kind != api.QuSelect {
			q = q.Kids[0]
		}
		return numbered(len(q.Items), func(i int) api.Place { return api.Place{T: f.As, Name: q.Items[i].Name} })
	}
	return slices.Concat(m.placesOf(f.Kids[0]), m.placesOf(f.Kids[1]))
}

func (m model) table(name string) int {
	return slices.IndexFunc(m.tables, func(r api.Relation) bool { return r.Name == name })
}

func (m model) from(f api.From) []seen {
	var l []lineOf
	places := m.placesOf(f)
	switch f.Kind {
	case api.FrTable:
		at := m.table(f.Table)
		for _, r := range m.rows[at] {
			s := seen{places: places, line: r}
			if hide := m.tables[at].When; f.Visible && len(hide) > 0 && m.expr(unnamed(hide[0]), s) == true {
				continue
			}
			l = append(l, r)
		}
	case api.FrQuery:
		_, l = m.query(f.Q[0])
	default:
		return m.joined(f, places)
	}
	return numbered(len(l), func(i int) seen { return seen{places: places, line: l[i]} })
}

// unnamed is a predicate that names columns without their table, which may stand under another name.
func unnamed(x api.Expr) api.Expr {
	x.T = ""
	x.Kids = numbered(len(x.Kids), func(i int) api.Expr { return unnamed(x.Kids[i]) })
	return x
}

func (m model) joined(f api.From, places []api.Place) []seen {
	a, b := m.from(f.Kids[0]), m.from(f.Kids[1])
	if len(a)*len(b) > api.MaxPairs {
		panic(api.ErrRows)
	}
	var out []seen
	for _, x := range a {
		alone := true
		for _, y := range b {
			if both := (seen{places: places, line: slices.Concat(x.line, y.line)}); m.expr(f.On[0], both) == true {
				out, alone = append(out, both), false
			}
		}
		if alone && f.Kind == api.FrLeft {
			out = append(out, seen{places: places, line: slices.Concat(x.line, make(lineOf, len(places)-len(x.line)))})
		}
	}
	if len(out) > api.MaxResult {
		panic(api.ErrRows)
	}
	return out
}
