package tool_test

import (
	"fmt"
	"slices"

	"cordon/api"
	"cordon/change"
)

func variableOf(name string) api.Expr { return api.Expr{Kind: api.ExVar, S: name} }

func number(n int) api.Expr { return api.Expr{Kind: api.ExInt, N: n} }

func bin(mark string, a, b api.Expr) api.Expr {
	return api.Expr{Kind: api.ExBin, S: mark, Kids: one(a, b)}
}

// named are variables of some names, in any order.
func (m *maker) named(least int, names ...string) []api.Var {
	order := m.Perm(len(names))
	return numbered(least+m.Intn(len(names)+1-least), func(i int) api.Var { return api.Var{Name: names[order[i]], Type: m.kind()} })
}

func (m *maker) script() api.Script {
	s := api.Script{Vars: m.named(3, "a", "b", "c", "d", "e", "f")}
	s.Procs = numbered(m.Intn(3), func(i int) api.Proc {
		return api.Proc{Name: one("p", "q", "t")[i], Params: m.named(0, "a", "b", "c"), Vars: m.named(0, "d", "e", "g")}
	})
	m.procs = s.Procs
	for i, p := range s.Procs {
		m.vars, m.ahead = slices.Concat(p.Params, p.Vars), i+1
		s.Procs[i].Body = m.block(2)
	}
	m.vars, m.ahead = s.Vars, 0
	for range 2 + m.Intn(3) {
		s.Body = append(s.Body, m.segment()...)
	}
	return s
}

// segment makes some statements, most often in a try, behind which others stand where they would without them.
func (m *maker) segment() []api.Stmt {
	if m.often(30) {
		return m.block(2)
	}
	m.count++
	return one(api.Stmt{Kind: api.StTry, At: m.count, Body: m.block(3), Else: m.block(1)}, m.stmt(1))
}

func (m *maker) block(deep int) []api.Stmt {
	return numbered(1+m.Intn(2+deep), func(int) api.Stmt { return m.stmt(deep) })
}

// variable is the name of one that is seen, of a type.
func (m *maker) variable(kind int) string {
	such := slices.DeleteFunc(slices.Clone(m.vars), func(v api.Var) bool { return v.Type != kind })
	if len(such) == 0 {
		return ""
	}
	return pick(m, such...).Name
}

// stmt makes a statement; skip, if there is nothing of which the one that is meant can be made.
func (m *maker) stmt(deep int) api.Stmt {
	m.count++
	s := api.Stmt{Kind: 1 + m.Intn(17), At: m.count}
	switch {
	case m.often(35), s.Kind == api.StRaise && m.often(60):
		s.Kind = pick(m, api.StPrint, api.StSet, api.StInsert, api.StPrint)
	case deep > 1 && m.often(30):
		s.Kind = pick(m, api.StFor, api.StFor, api.StTry, api.StIf)
	case deep <= 1 && slices.Contains(one(api.StIf, api.StWhile, api.StFor, api.StTry), s.Kind):
		s.Kind = pick(m, api.StSet, api.StPrint)
	}
	switch s.Kind {
	case api.StSet, api.StInput:
		m.toVariable(&s)
	case api.StFor:
		m.toMany(&s)
	case api.StIf:
		s.E = one(m.expr(nil, api.TyBool, 1+m.Intn(3)))
	case api.StPrint:
		s.Table, s.E = pick(m, m.s.Channels...).Low, one(m.expr(nil, m.Intn(4), 1+m.Intn(3)))
	case api.StCall:
		m.toProc(&s)
	case api.StInsert, api.StInsertQ, api.StUpdate, api.StDelete:
		m.toTable(&s)
	}
	if slices.Contains(one(api.StIf, api.StWhile, api.StFor, api.StTry), s.Kind) {
		s.Body = m.block(deep - 1)
	}
	if s.Kind == api.StTry || s.Kind == api.StIf && m.often(50) {
		s.Else = m.block(deep - 1)
	}
	if s.Kind == api.StWhile {
		m.toWhile(&s)
	}
	return s
}

func skip(s *api.Stmt) { *s = api.Stmt{Kind: api.StSkip, At: s.At} }

// toWhile makes most of these count up, so that they end.
func (m *maker) toWhile(s *api.Stmt) {
	name := m.variable(api.TyInt)
	if name == "" || m.often(15) {
		s.E = one(m.expr(nil, api.TyBool, 1+m.Intn(3)))
		return
	}
	m.count++
	is := api.Expr{Kind: api.ExIs, Kids: one(variableOf(name))}
	s.E = one(bin("or", is, bin("<", variableOf(name), number(2))))
	next := api.Expr{Kind: api.ExCase, Kids: one(is, number(m.Intn(2)), bin("+", variableOf(name), number(1)))}
	s.Body = append(s.Body, api.Stmt{Kind: api.StSet, At: m.count, Names: one(name), E: one(next)})
}

func (m *maker) toVariable(s *api.Stmt) {
	kind := api.TyInt
	if s.Kind == api.StSet {
		kind = m.kind()
	}
	name := m.variable(kind)
	if name == "" {
		skip(s)
		return
	}
	s.Names = one(name)
	if s.Kind == api.StSet {
		s.E = one(m.expr(nil, kind, 1+m.Intn(3)))
	}
}

func (m *maker) toMany(s *api.Stmt) {
	var kinds []int
	for _, i := range m.Perm(len(m.vars))[:min(len(m.vars), 1+m.Intn(3))] {
		s.Names, kinds = append(s.Names, m.vars[i].Name), append(kinds, m.vars[i].Type)
	}
	if len(s.Names) == 0 {
		skip(s)
		return
	}
	s.Q = one(m.query(kinds, 1+m.Intn(2)))
}

func (m *maker) toProc(s *api.Stmt) {
	from := m.ahead
	if m.often(8) {
		from = 0
	}
	if from >= len(m.procs) {
		skip(s)
		return
	}
	of := pick(m, m.procs[from:]...)
	s.Table = of.Name
	s.E = numbered(len(of.Params), func(i int) api.Expr { return m.expr(nil, of.Params[i].Type, 1+m.Intn(3)) })
}

func (m *maker) toTable(s *api.Stmt) {
	of := pick(m, m.tables...)
	s.Table = of.Name
	kinds := numbered(len(of.Cols), func(i int) int { return of.Cols[i].Type })
	cols := placesOf(of, of.Name)
	switch s.Kind {
	case api.StInsert:
		s.E = numbered(len(kinds), func(i int) api.Expr { return m.expr(nil, kinds[i], 1+m.Intn(2)) })
	case api.StInsertQ:
		s.Q = one(m.query(kinds, 1+m.Intn(2)))
	case api.StUpdate:
		for _, i := range m.Perm(len(of.Cols)) {
			if !slices.Contains(change.Fixed(of), i) && m.often(70) {
				s.Names, s.E = append(s.Names, of.Cols[i].Name), append(s.E, m.expr(cols, kinds[i], 1+m.Intn(3)))
			}
		}
		if len(s.Names) == 0 {
			skip(s)
			return
		}
		fallthrough
	case api.StDelete:
		if m.often(60) {
			s.Where = one(m.expr(cols, api.TyBool, 1+m.Intn(3)))
		}
	}
}

func placesOf(r api.Relation, as string) []api.Place {
	return numbered(len(r.Cols), func(i int) api.Place { return api.Place{T: as, Name: r.Cols[i].Name, Type: r.Cols[i].Type} })
}

// expr makes one of a type, so deep at the most, over columns.
func (m *maker) expr(cols []api.Place, kind, deep int) api.Expr {
	part := func(kind int) api.Expr { return m.expr(cols, kind, deep-1) }
	switch {
	case deep <= 1 || m.often(25):
		return m.leaf(cols, kind)
	case m.often(12):
		return api.Expr{Kind: api.ExCase, Kids: one(part(api.TyBool), part(kind), part(kind))}
	case m.often(15):
		return m.scalar(kind, deep)
	case kind == api.TyBool:
		return m.truth(part, deep)
	case m.often(50):
		return m.leaf(cols, kind)
	case kind == api.TyInt && m.often(30):
		return api.Expr{Kind: api.ExNeg, Kids: one(part(kind))}
	case kind == api.TyInt:
		return bin(pick(m, "+", "-", "*", "/", "%"), part(kind), part(kind))
	case kind == api.TyText:
		return bin("||", part(kind), part(kind))
	}
	return m.leaf(cols, kind)
}

// scalar makes a query of one value, most often of one row.
func (m *maker) scalar(kind, deep int) api.Expr {
	q := m.query(one(kind), deep-1)
	if q.Kind == api.QuSelect && m.often(70) {
		q.Limit = 1
	}
	return api.Expr{Kind: api.ExScalar, Q: one(q)}
}

func (m *maker) leaf(cols []api.Place, kind int) api.Expr {
	found := slices.DeleteFunc(slices.Clone(cols), func(p api.Place) bool { return p.Type != kind })
	if len(found) > 0 && m.often(70) {
		of := pick(m, found...)
		return api.Expr{Kind: api.ExCol, S: of.Name, T: of.T}
	}
	if name := m.variable(kind); name != "" && m.often(50) {
		return variableOf(name)
	}
	if m.often(8) {
		kind = api.TyNull
	}
	return one(api.Expr{Kind: api.ExNull}, api.Expr{Kind: api.ExBool, N: m.Intn(2)}, number(m.Intn(4)), api.Expr{Kind: api.ExText, S: pick(m, "", "a")})[kind]
}

func (m *maker) truth(part func(kind int) api.Expr, deep int) api.Expr {
	of := m.kind()
	switch m.Intn(8) {
	case 0:
		return api.Expr{Kind: api.ExNot, Kids: one(part(api.TyBool))}
	case 1:
		return api.Expr{Kind: api.ExIs, N: m.Intn(2), Kids: one(part(of))}
	case 2:
		return bin(pick(m, "or", "and"), part(api.TyBool), part(api.TyBool))
	case 3:
		return api.Expr{Kind: api.ExExists, Q: one(m.query(one(of), deep-1))}
	case 4:
		return api.Expr{Kind: api.ExIn, N: m.Intn(2), Kids: one(part(of)), Q: one(m.query(one(of), deep-1))}
	}
	return bin(pick(m, "=", "<>", "<", "<=", ">", ">="), part(of), part(of))
}

// query makes one whose columns have these types, or are null.
func (m *maker) query(kinds []int, deep int) api.Query {
	if deep > 1 && m.often(15) {
		return api.Query{Kind: api.QuUnion + m.Intn(4), Limit: -1, Kids: one(m.query(kinds, deep-1), m.query(kinds, deep-1))}
	}
	q := api.Query{Kind: api.QuSelect, Limit: pick(m, -1, -1, -1, 2), Distinct: m.often(15)}
	var cols []api.Place
	if m.often(90) {
		q.From = make([]api.From, 1)
		q.From[0], cols = m.from(deep)
	}
	if m.often(40) {
		q.Where = one(m.expr(cols, api.TyBool, 1+m.Intn(2)))
	}
	item := func(kind int) api.Expr { return m.expr(cols, kind, deep) }
	if m.often(20) {
		item = m.gathering(&q, cols, deep)
	}
	for _, kind := range kinds {
		m.count++
		q.Items = append(q.Items, api.Item{E: item(kind), Name: fmt.Sprint("x", m.count)})
	}
	if m.often(20) {
		q.Order = one(api.Key{E: api.Expr{Kind: api.ExCol, S: q.Items[m.Intn(len(kinds))].Name}, Desc: m.often(50)})
	}
	return q
}

// gathering makes a query one that gathers, by a column or by none; what it tells makes its items.
func (m *maker) gathering(q *api.Query, cols []api.Place, deep int) func(kind int) api.Expr {
	var by []api.Place
	if len(cols) > 0 && m.often(60) {
		by = one(pick(m, cols...))
		q.Group = one(api.Expr{Kind: api.ExCol, S: by[0].Name, T: by[0].T})
	}
	return func(kind int) api.Expr {
		switch {
		case len(by) > 0 && m.often(40):
			return m.leaf(by, kind)
		case kind == api.TyInt && m.often(40):
			return api.Expr{Kind: api.ExAgg, S: "count"}
		case kind == api.TyInt && m.often(50):
			return api.Expr{Kind: api.ExAgg, S: "sum", Kids: one(m.expr(cols, kind, deep))}
		}
		return api.Expr{Kind: api.ExAgg, S: pick(m, "min", "max"), Kids: one(m.expr(cols, kind, deep))}
	}
}

// from makes what rows come from, and tells the places of these.
func (m *maker) from(deep int) (api.From, []api.Place) {
	f, places := m.single()
	for deep > 1 && m.often(20) {
		g, more := m.single()
		places = slices.Concat(places, more)
		f = api.From{Kind: pick(m, api.FrJoin, api.FrLeft), Kids: one(f, g), On: one(m.expr(places, api.TyBool, 2))}
	}
	return f, places
}

func (m *maker) single() (api.From, []api.Place) {
	m.count++
	as, of := fmt.Sprint("f", m.count), pick(m, m.tables...)
	return api.From{Kind: api.FrTable, Table: of.Name, As: as, Visible: m.often(40)}, placesOf(of, as)
}
