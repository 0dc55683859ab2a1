package derive_test

import (
	"fmt"
	"slices"
	"strings"

	"cordon/api"
	"cordon/labels"
	"cordon/schema"
)

// P19.1 a second way: all that a proof must claim is written down, level by level, and no level is ever put together with another one: what stands at several stands at a list of them, each of which must stand below what it flows to. Statements are gone over as they are read.

// demand is that a level stands below another one: one that the proof claims, or one that is given.
type demand struct {
	from  int
	to    *int
	given bool
}

type model struct {
	c *schema.Catalog
	made
	reading
	cols    [][]int // of each table the levels of its columns
	exist   []int   // and at which it exists
	x       *api.Proof
	proc    int
	demands []demand
	cans    []*bool // what must be true
}

func modelOf(c *schema.Catalog, m made) *model {
	out := &model{c: c, made: m, reading: reading{c.Tables()}}
	for i, t := range out.tables {
		out.cols = append(out.cols, numbered(len(t.Cols), func(j int) int { return labels.Column(c, i, j) }))
		out.exist = append(out.exist, labels.Exists(c, i))
	}
	return out
}

// shape is how many variables and statements there are, in which blocks.
func (m *model) shape() string {
	var out strings.Builder
	bodies := m.bodies()
	for i, code := range m.p.Procs {
		fmt.Fprint(&out, len(code.Params)+len(code.Vars), stmtShape(bodies[i]))
	}
	return out.String()
}

func stmtShape(l []api.Stmt) string {
	out := "{"
	for _, s := range l {
		out += stmtShape(s.Body) + stmtShape(s.Else)
	}
	return out + "}"
}

func proofShape(x api.Proof) string {
	n := len(x.Procs)
	if len(x.Vars) != n || len(x.Entry) != n || len(x.Raise) != n || len(x.Can) != n {
		return "none"
	}
	var out strings.Builder
	for i, rules := range x.Procs {
		fmt.Fprint(&out, len(x.Vars[i]), ruleShape(rules))
	}
	return out.String()
}

func ruleShape(l []api.Rule) string {
	out := "{"
	for _, r := range l {
		out += ruleShape(r.Body) + ruleShape(r.Else)
	}
	return out + "}"
}

func (m *model) bodies() [][]api.Stmt {
	return append(numbered(len(m.s.Procs), func(i int) []api.Stmt { return m.s.Procs[i].Body }), m.s.Body)
}

// takes tells whether a proof fits, and all that it must claim is so.
func (m *model) takes(x api.Proof) bool {
	if proofShape(x) != m.shape() {
		return false
	}
	for _, s := range spotsOf(m.p, &x) {
		if s.level != nil && (*s.level < 0 || *s.level >= len(m.c.Lattice().Levels())) {
			return false
		}
	}
	m.ask(&x)
	return !slices.ContainsFunc(m.demands, m.open) && !slices.ContainsFunc(m.cans, func(can *bool) bool { return !*can })
}

func (m *model) open(d demand) bool { return !m.c.Lattice().Leq(d.from, *d.to) }

// least is the proof that claims the least of which all is so, but for what is given.
func (m *model) least() api.Proof {
	bottom := func(n int) []int { return numbered(n, func(int) int { return m.c.Lattice().Bottom() }) }
	n := len(m.p.Procs)
	x := api.Proof{Entry: bottom(n), Raise: bottom(n), Can: make([]bool, n)}
	for _, code := range m.p.Procs {
		x.Vars = append(x.Vars, bottom(len(code.Params)+len(code.Vars)))
		x.Procs = append(x.Procs, blankRules(m.c.Lattice().Bottom(), code.Body))
	}
	return m.mended(x)
}

func blankRules(bottom int, l []api.Op) []api.Rule {
	return numbered(len(l), func(i int) api.Rule {
		return api.Rule{Pc: bottom, Raise: bottom, Body: blankRules(bottom, l[i].Body), Else: blankRules(bottom, l[i].Else)}
	})
}

// mended is a proof that claims what one does, and more, till all is so but for what is given.
func (m *model) mended(x api.Proof) api.Proof {
	x = copied(x)
	for changed := true; changed; {
		changed = false
		m.ask(&x)
		for _, d := range m.demands {
			if !d.given && m.open(d) {
				*d.to, changed = m.c.Lattice().Join(*d.to, d.from), true
			}
		}
		for _, can := range m.cans {
			if !*can {
				*can, changed = true, true
			}
		}
	}
	return x
}

// ask writes down all that a proof must claim.
func (m *model) ask(x *api.Proof) {
	m.x, m.demands, m.cans = x, nil, nil
	bodies := m.bodies()
	for i, code := range m.p.Procs {
		m.proc = i
		m.block(one(x.Entry[i]), bodies[i], code.Body, x.Procs[i])
		if out, can := raisesOf(x.Procs[i]); can {
			m.cans = append(m.cans, &x.Can[i])
			m.put(&x.Raise[i], out...)
		}
	}
}

// put is that levels stand below one that is claimed.
func (m *model) put(to *int, levels ...int) {
	for _, level := range levels {
		m.demands = append(m.demands, demand{from: level, to: to})
	}
}

// flow is that levels stand below one that is given.
func (m *model) flow(to int, levels ...int) {
	for _, level := range levels {
		m.demands = append(m.demands, demand{from: level, to: &to, given: true})
	}
}

// raises is that a statement can raise something, at these levels, and where it stands.
func (m *model) raises(r *api.Rule, can bool, levels ...int) {
	if can {
		m.cans = append(m.cans, &r.Can)
		m.put(&r.Raise, r.Pc)
		m.put(&r.Raise, levels...)
	}
}

// raisesOf are the levels at which rules raise something, of those that can.
func raisesOf(rules []api.Rule) ([]int, bool) {
	var out []int
	for _, r := range rules {
		if r.Can {
			out = append(out, r.Raise)
		}
	}
	return out, len(out) > 0
}

func (m *model) raisesBlock(r *api.Rule, rules []api.Rule) {
	out, can := raisesOf(rules)
	m.raises(r, can, out...)
}

func (m *model) block(stand []int, l []api.Stmt, ops []api.Op, rules []api.Rule) {
	for i := range ops {
		r := &rules[i]
		m.put(&r.Pc, stand...)
		m.stmt(l[i], ops[i], r)
		if r.Can {
			stand = append(slices.Clip(stand), r.Raise)
		}
	}
}

func (m *model) vars() []api.Named {
	code := m.p.Procs[m.proc]
	l := slices.Concat(code.Params, code.Vars)
	return numbered(len(l), func(i int) api.Named { return api.Named{Name: l[i].Name, Level: m.x.Vars[m.proc][i]} })
}

func (m *model) variable(name string) *int {
	place := slices.IndexFunc(m.vars(), func(v api.Named) bool { return v.Name == name })
	return &m.x.Vars[m.proc][place]
}

// mark is an expression's: the levels of its value, and at which it raises, if it can.
type mark struct {
	value int
	raise []int
	can   bool
}

func (m *model) markOf(cols []int, n api.Node) mark {
	x := labels.Node(m.c, m.vars(), cols, n)
	out := mark{value: x.Value, can: x.Can}
	if x.Can {
		out.raise = one(x.Raise)
	}
	return out
}

func (m *model) stmt(s api.Stmt, op api.Op, r *api.Rule) {
	switch s.Kind {
	case api.StSet:
		x := m.markOf(nil, op.E[0])
		m.put(m.variable(s.Names[0]), append(x.raise, x.value, r.Pc)...)
		m.raises(r, x.can, x.raise...)
	case api.StPrint:
		x := m.markOf(nil, op.E[0])
		to, _ := m.c.Channel(s.Table)
		m.flow(to, append(x.raise, x.value, r.Pc)...)
		m.raises(r, x.can, x.raise...)
	case api.StInput:
		m.put(m.variable(s.Names[0]), r.Pc)
		m.flow(m.c.Lattice().Bottom(), r.Pc)
	case api.StIf, api.StWhile:
		m.asked(s, op, r, m.markOf(nil, op.E[0]))
	case api.StFor:
		m.each(s, op, r)
	case api.StTry:
		m.block(one(r.Pc), s.Body, op.Body, r.Body)
		caught, _ := raisesOf(r.Body)
		m.block(append(caught, r.Pc), s.Else, op.Else, r.Else)
		m.raisesBlock(r, r.Else)
	case api.StRaise:
		m.raises(r, true)
	case api.StCall:
		m.call(s, op, r)
	case api.StBegin, api.StCommit, api.StRollback:
		for i, t := range m.tables {
			m.flow(t.Rows, r.Pc)
			for _, col := range m.cols[i] {
				m.flow(col, r.Pc)
			}
		}
	case api.StInsert:
		m.inserts(s, op, r)
	case api.StInsertQ:
		m.insertsRows(s, op, r)
	case api.StUpdate:
		m.updates(s, op, r)
	case api.StDelete:
		m.deletes(op, r)
	}
}

func (m *model) asked(s api.Stmt, op api.Op, r *api.Rule, x mark) {
	stand := append(slices.Clone(x.raise), r.Pc, x.value)
	if s.Kind == api.StWhile {
		again, _ := raisesOf(r.Body)
		stand = append(stand, again...)
		x.raise = stand
	}
	m.block(stand, s.Body, op.Body, r.Body)
	m.block(stand, s.Else, op.Else, r.Else)
	m.raises(r, x.can, x.raise...)
	m.raisesBlock(r, r.Body)
	m.raisesBlock(r, r.Else)
}

func (m *model) each(s api.Stmt, op api.Op, r *api.Rule) {
	x := labels.Plan(m.c, m.vars(), op.Plan[0])
	stand, _ := raisesOf(r.Body)
	stand = append(stand, r.Pc, x.Rows)
	if x.Can {
		stand = append(stand, x.Raise)
	}
	for i, name := range s.Names {
		m.put(m.variable(name), append(slices.Clip(stand), x.Cols[i])...)
	}
	m.block(stand, s.Body, op.Body, r.Body)
	m.raises(r, x.Can, x.Raise)
	m.raisesBlock(r, r.Body)
}

func (m *model) call(s api.Stmt, op api.Op, r *api.Rule) {
	of := slices.IndexFunc(m.s.Procs, func(p api.Proc) bool { return p.Name == s.Table })
	stand := one(r.Pc)
	var values []int
	for _, n := range op.E {
		x := m.markOf(nil, n)
		m.raises(r, x.can, x.raise...)
		stand, values = append(stand, x.raise...), append(values, x.value)
	}
	m.put(&m.x.Entry[of], stand...)
	for i, value := range values {
		m.put(&m.x.Vars[of][i], append(slices.Clip(stand), value)...)
	}
	m.raises(r, m.x.Can[of], m.x.Raise[of])
}

func (m *model) inserts(s api.Stmt, op api.Op, r *api.Rule) {
	t := m.tables[op.N]
	m.flow(t.Rows, r.Pc)
	m.raises(r, len(t.Key) > 0, m.exist[op.N])
	for i, n := range op.E {
		x := m.markOf(nil, n)
		if !t.Cols[i].Null && m.mayBeNull(s.E[i], nullSource{}) {
			x.can, x.raise = true, append(x.raise, x.value)
		}
		m.raises(r, x.can, x.raise...)
		m.flow(t.Rows, x.raise...)
		m.flow(m.cols[op.N][i], x.value)
		m.raises(r, slices.Contains(t.Key, i), x.value)
	}
}

func (m *model) insertsRows(s api.Stmt, op api.Op, r *api.Rule) {
	t, x, may := m.tables[op.N], labels.Plan(m.c, m.vars(), op.Plan[0]), m.queryNulls(s.Q[0])
	loud := func(can bool, levels ...int) {
		m.raises(r, can, append(levels, x.Rows)...)
		if can {
			m.flow(t.Rows, levels...)
		}
	}
	m.flow(t.Rows, r.Pc, x.Rows)
	loud(x.Can, x.Raise)
	loud(len(t.Key) > 0, m.exist[op.N])
	for i, level := range x.Cols {
		loud(!t.Cols[i].Null && may[i], level)
		loud(slices.Contains(t.Key, i), level)
		m.flow(m.cols[op.N][i], level)
	}
}

func (m *model) updates(s api.Stmt, op api.Op, r *api.Rule) {
	t, cols := m.tables[op.N], m.cols[op.N]
	to := numbered(len(op.Cols), func(i int) int { return cols[op.Cols[i]] })
	loud := func(can bool, levels ...int) { // what it raises flows to all of its columns
		levels = append(levels, m.exist[op.N])
		m.raises(r, can, levels...)
		for i := range to {
			if can {
				m.flow(to[i], levels...)
			}
		}
	}
	where := mark{value: m.c.Lattice().Bottom()}
	if len(op.Where) > 0 {
		where = m.markOf(cols, op.Where[0])
	}
	loud(where.can, where.raise...)
	of := nullSource{places: placesOf(t), nulls: numbered(len(t.Cols), func(j int) bool { return t.Cols[j].Null })}
	for i, n := range op.E {
		x := m.markOf(cols, n)
		m.flow(to[i], r.Pc, where.value, x.value)
		loud(x.can || !t.Cols[op.Cols[i]].Null && m.mayBeNull(s.E[i], of), append(x.raise, x.value, where.value)...)
	}
}

func (m *model) deletes(op api.Op, r *api.Rule) {
	rows := m.tables[op.N].Rows
	m.flow(rows, r.Pc)
	if len(op.Where) > 0 {
		x := m.markOf(m.cols[op.N], op.Where[0])
		m.flow(rows, x.value)
		if x.can {
			x.raise = append(x.raise, m.exist[op.N])
		}
		m.flow(rows, x.raise...)
		m.raises(r, x.can, x.raise...)
	}
}

// What may be null, of expressions and queries as they are read.

type reading struct{ tables []api.Relation }

// nullSource is places, and of which it is known that they may be null.
type nullSource struct {
	places []api.Place
	nulls  []bool
}

func (r reading) mayBeNull(x api.Expr, s nullSource) bool {
	some := func(l ...api.Expr) bool {
		return slices.ContainsFunc(l, func(kid api.Expr) bool { return r.mayBeNull(kid, s) })
	}
	switch x.Kind {
	case api.ExBool, api.ExInt, api.ExText, api.ExIs, api.ExExists:
		return false
	case api.ExCol:
		return s.nulls[slices.IndexFunc(s.places, func(p api.Place) bool { return p.Name == x.S && (x.T == "" || x.T == p.T) })]
	case api.ExNeg, api.ExNot, api.ExBin:
		return some(x.Kids...)
	case api.ExCase:
		return some(x.Kids[1:]...)
	case api.ExIn:
		return some(x.Kids...) || r.queryNulls(x.Q[0])[0]
	case api.ExAgg:
		return x.S != "count"
	}
	return true
}

func (r reading) queryNulls(q api.Query) []bool {
	if q.Kind == api.QuSelect {
		var s nullSource
		if len(q.From) > 0 {
			s = r.from(q.From[0])
		}
		return numbered(len(q.Items), func(i int) bool { return r.mayBeNull(q.Items[i].E, s) })
	}
	a, b := r.queryNulls(q.Kids[0]), r.queryNulls(q.Kids[1])
	return numbered(len(a), func(i int) bool {
		return a[i] || b[i] && (q.Kind == api.QuUnion || q.Kind == api.QuUnionAll)
	})
}

func (r reading) from(f api.From) nullSource {
	var out nullSource
	switch f.Kind {
	case api.FrTable:
		for _, c := range r.tables[slices.IndexFunc(r.tables, func(t api.Relation) bool { return t.Name == f.Table })].Cols {
			out.places, out.nulls = append(out.places, api.Place{T: f.As, Name: c.Name}), append(out.nulls, c.Null)
		}
		return out
	case api.FrQuery:
		out.nulls = r.queryNulls(f.Q[0])
		for _, i := range head(f.Q[0]).Items {
			out.places = append(out.places, api.Place{T: f.As, Name: i.Name})
		}
		return out
	}
	a, b := r.from(f.Kids[0]), r.from(f.Kids[1])
	out.places = slices.Concat(a.places, b.places)
	out.nulls = append(a.nulls, numbered(len(b.nulls), func(i int) bool { return b.nulls[i] || f.Kind == api.FrLeft })...)
	return out
}
