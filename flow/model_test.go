package flow_test

import (
	"fmt"
	"math/rand"
	"slices"
	"testing"

	"cordon/api"
	"cordon/engine"
	"cordon/flow"
	"cordon/labels"
	"cordon/lattice"
	"cordon/store"
	"cordon/value"
)

// P18.1 a second way: each statement and each block has places for where it stands and what it raises, all of them empty sets of levels at first. What is said to be in them is put there, statement by statement, in any order, till nothing changes. The least level above a set is looked for where one is asked.

type set uint // of levels, as bits

// spot is a block: its statements, where it stands.
type spot struct {
	pc    set
	steps []*step
}

// step is a statement as it is read, and as it is done.
type step struct {
	api.Op
	stmt       api.Stmt
	proc       int
	ahead      []*step // of its block
	in         *spot
	body, then *spot
	pc, raise  set
	can        bool
}

// model is a program and its unknowns.
type model struct {
	*maker
	made
	tables  []api.Relation
	names   [][]string
	vars    [][]set
	blocks  []*spot
	steps   []*step
	changed bool
}

func modelOf(m *maker, x made) *model {
	out := &model{maker: m, made: x, tables: m.c.Tables()}
	bodies := append(numbered(len(x.s.Procs), func(i int) []api.Stmt { return x.s.Procs[i].Body }), x.s.Body)
	for i, code := range x.p.Procs {
		vars := slices.Concat(code.Params, code.Vars)
		out.names = append(out.names, numbered(len(vars), func(j int) string { return vars[j].Name }))
		out.vars = append(out.vars, make([]set, len(vars)))
		out.blocks = append(out.blocks, out.take(i, bodies[i], code.Body))
	}
	return out
}

func (m *model) take(proc int, l []api.Stmt, ops []api.Op) *spot {
	out := &spot{}
	for i, op := range ops {
		s := &step{Op: op, stmt: l[i], proc: proc, in: out, ahead: out.steps}
		m.steps = append(m.steps, s)
		s.body, s.then = m.take(proc, l[i].Body, op.Body), m.take(proc, l[i].Else, op.Else)
		out.steps = append(slices.Clip(out.steps), s)
	}
	return out
}

func (m *model) put(to *set, sets ...set) {
	for _, s := range sets {
		if *to|s != *to {
			*to, m.changed = *to|s, true
		}
	}
}

// level is the least one above all of a set.
func (m *model) level(s set) int { return leastOf(m.c.Lattice(), s) }

func leastOf(l *lattice.Lattice, s set) int {
	out := l.Top()
	for level := range l.Levels() {
		above := true
		for x := range l.Levels() {
			above = above && (s>>x&1 == 0 || l.Leq(x, level))
		}
		if above && l.Leq(level, out) {
			out = level
		}
	}
	return out
}

// raisesAll is what the steps of a block raise.
func (b *spot) raisesAll() (set, bool) {
	var out set
	can := false
	for _, s := range b.steps {
		if s.can {
			out, can = out|s.raise, true
		}
	}
	return out, can
}

func (m *model) raises(s *step, can bool, sets ...set) {
	if can {
		m.changed = m.changed || !s.can
		s.can = true
		m.put(&s.raise, s.pc)
		m.put(&s.raise, sets...)
	}
}

func (m *model) named(proc int) []api.Named {
	return numbered(len(m.names[proc]), func(i int) api.Named { return api.Named{Name: m.names[proc][i], Level: m.level(m.vars[proc][i])} })
}

// mark is an expression's: Value, Raise (empty, where it can't).
type mark struct {
	value, raise set
	can          bool
}

func (m *model) markOf(s *step, cols []int, n api.Node) mark {
	x := labels.Node(m.c, m.named(s.proc), cols, n)
	out := mark{value: 1 << x.Value, can: x.Can}
	if x.Can {
		out.raise = 1 << x.Raise
	}
	return out
}

func (m *model) variable(s *step, name string) *set {
	return &m.vars[s.proc][slices.Index(m.names[s.proc], name)]
}

// rule puts all that is said of a statement where it is said to be.
func (m *model) rule(s *step) {
	m.put(&s.pc, s.in.pc)
	for _, o := range s.ahead {
		if o.can {
			m.put(&s.pc, o.raise)
		}
	}
	bodyRaise, bodyCan := s.body.raisesAll()
	thenRaise, thenCan := s.then.raisesAll()
	switch s.Kind {
	case api.StSet, api.StPrint, api.StIf, api.StWhile:
		x := m.markOf(s, nil, s.E[0])
		switch s.Kind {
		case api.StSet:
			m.put(m.variable(s, s.Names[0]), x.value, x.raise, s.pc)
		case api.StIf:
			m.put(&s.body.pc, s.pc, x.value, x.raise)
			m.put(&s.then.pc, s.pc, x.value, x.raise)
		case api.StWhile:
			m.put(&s.body.pc, s.pc, x.value, x.raise, bodyRaise)
			x.raise |= s.body.pc
		}
		m.raises(s, x.can, x.raise)
		m.raises(s, bodyCan, bodyRaise)
		m.raises(s, thenCan, thenRaise)
	case api.StInput:
		m.put(m.variable(s, s.Names[0]), s.pc)
	case api.StFor:
		x := labels.Plan(m.c, m.named(s.proc), s.Plan[0])
		m.put(&s.body.pc, s.pc, 1<<x.Rows, bodyRaise)
		if x.Can {
			m.put(&s.body.pc, 1<<x.Raise)
		}
		for i, name := range s.Names {
			m.put(m.variable(s, name), 1<<x.Cols[i], s.body.pc)
		}
		m.raises(s, x.Can, 1<<x.Raise)
		m.raises(s, bodyCan, bodyRaise)
	case api.StTry:
		m.put(&s.body.pc, s.pc)
		m.put(&s.then.pc, s.pc, bodyRaise)
		m.raises(s, thenCan, thenRaise)
	case api.StRaise:
		m.raises(s, true)
	case api.StCall:
		m.ruleOfCall(s)
	default:
		for _, w := range m.writes(s) {
			m.raises(s, w.can, w.raise)
		}
	}
}

func (m *model) ruleOfCall(s *step) {
	at := s.pc
	var values []set
	for _, n := range s.E {
		x := m.markOf(s, nil, n)
		at |= x.raise
		m.raises(s, x.can, x.raise)
		values = append(values, x.value)
	}
	m.put(&m.blocks[s.N].pc, at)
	for i, v := range values {
		m.put(&m.vars[s.N][i], at, v)
	}
	raise, can := m.blocks[s.N].raisesAll()
	m.raises(s, can, raise)
}

// written is what a statement that writes tells: what it raises, and what flows where.
type written struct {
	raise set
	can   bool
	from  set
	to    int
	why   int
}

func (m *model) columns(t int) []int {
	return numbered(len(m.tables[t].Cols), func(i int) int { return labels.Column(m.c, t, i) })
}

func (m *model) writes(s *step) []written {
	switch s.Kind {
	case api.StInsert:
		return m.inserts(s)
	case api.StInsertQ:
		return m.insertsRows(s)
	case api.StUpdate:
		return m.updates(s)
	case api.StDelete:
		var x mark
		if len(s.Where) > 0 {
			x = m.markOf(s, m.columns(s.N), s.Where[0])
		}
		if x.can {
			x.raise |= 1 << labels.Exists(m.c, s.N)
		}
		return one(written{raise: x.raise, can: x.can, from: x.raise | x.value | s.pc, to: m.tables[s.N].Rows, why: api.WhyRows})
	}
	return nil
}

func (m *model) inserts(s *step) []written {
	t := m.tables[s.N]
	rows := written{from: s.pc, to: t.Rows, why: api.WhyRows}
	key := written{raise: 1 << labels.Exists(m.c, s.N), can: len(t.Key) > 0}
	var out []written
	for i, n := range s.E {
		x := m.markOf(s, nil, n)
		rows.can, rows.raise, rows.from = rows.can || x.can, rows.raise|x.raise, rows.from|x.raise
		if !t.Cols[i].Null && (reading{m.tables}).mayBeNull(s.stmt.E[i], nullSource{}) {
			rows.can, rows.raise, rows.from = true, rows.raise|x.value, rows.from|x.value
		}
		if slices.Contains(t.Key, i) {
			key.raise |= x.value
		}
		out = append(out, written{from: x.value, to: m.columns(s.N)[i], why: api.WhyColumn})
	}
	return slices.Concat(one(rows), out, one(key))
}

func (m *model) insertsRows(s *step) []written {
	t, x, may := m.tables[s.N], labels.Plan(m.c, m.named(s.proc), s.Plan[0]), reading{m.tables}.queryNulls(s.stmt.Q[0])
	rows := written{can: x.Can || len(t.Key) > 0, to: t.Rows, why: api.WhyRows}
	if x.Can {
		rows.raise |= 1 << x.Raise
	}
	if len(t.Key) > 0 {
		rows.raise |= 1 << labels.Exists(m.c, s.N)
	}
	var out []written
	for i, level := range x.Cols {
		if !t.Cols[i].Null && may[i] {
			rows.can, rows.raise = true, rows.raise|1<<level
		}
		if slices.Contains(t.Key, i) {
			rows.raise |= 1 << level
		}
		out = append(out, written{from: 1 << level, to: m.columns(s.N)[i], why: api.WhyColumn})
	}
	rows.raise |= 1 << x.Rows
	rows.from = s.pc | rows.raise
	return append(one(rows), out...)
}

func (m *model) updates(s *step) []written {
	t, cols := m.tables[s.N], m.columns(s.N)
	var where mark
	if len(s.Where) > 0 {
		where = m.markOf(s, cols, s.Where[0])
	}
	can, raise := where.can, where.raise
	var values []set
	for i, n := range s.E {
		x := m.markOf(s, cols, n)
		of := nullSource{places: placesOf(t), nulls: numbered(len(t.Cols), func(j int) bool { return t.Cols[j].Null })}
		if x.can || !t.Cols[s.Cols[i]].Null && (reading{m.tables}).mayBeNull(s.stmt.E[i], of) {
			can, raise = true, raise|x.raise|x.value|where.value
		}
		values = append(values, x.value)
	}
	if can {
		raise |= 1 << labels.Exists(m.c, s.N)
	}
	return numbered(len(s.Cols), func(i int) written {
		return written{can: can, raise: raise, from: s.pc | where.value | values[i] | raise, to: cols[s.Cols[i]], why: api.WhyColumn}
	})
}

// diags are those of a statement alone.
func (m *model) diags(s *step) []written {
	switch s.Kind {
	case api.StPrint:
		x := m.markOf(s, nil, s.E[0])
		return one(written{from: s.pc | x.value | x.raise, to: m.c.Channels()[s.N].Level, why: api.WhyPrint})
	case api.StInput:
		return one(written{from: s.pc, to: m.c.Lattice().Bottom(), why: api.WhyInput})
	case api.StBegin, api.StCommit, api.StRollback:
		for t, r := range m.tables {
			for _, level := range append(m.columns(t), r.Rows) {
				if !m.c.Lattice().Leq(m.level(s.pc), level) {
					return one(written{from: s.pc, to: level, why: api.WhySaved})
				}
			}
		}
		return nil
	}
	return m.writes(s)
}

// callsItself tells whether a procedure calls itself, by ways of calls: of as many calls as there are procedures, or fewer.
func (m *model) callsItself(proc int) bool {
	front := one(proc)
	for range m.blocks {
		var next []int
		for _, s := range m.steps {
			if s.Kind == api.StCall && slices.Contains(front, s.proc) {
				next = append(next, s.N)
			}
		}
		if slices.Contains(next, proc) {
			return true
		}
		slices.Sort(next)
		front = slices.Compact(next)
	}
	return false
}

func (m *model) verdict(rnd *rand.Rand) api.Verdict {
	for m.changed = true; m.changed; {
		m.changed = false
		for _, i := range rnd.Perm(len(m.steps)) {
			m.rule(m.steps[i])
		}
	}
	var out api.Verdict
	var loops set
	for i, b := range m.blocks {
		raise, can := b.raisesAll()
		out.Vars = append(out.Vars, numbered(len(m.vars[i]), func(j int) int { return m.level(m.vars[i][j]) }))
		out.Entry, out.Raise, out.Can = append(out.Entry, m.level(b.pc)), append(out.Raise, m.level(raise)), append(out.Can, can)
		if m.callsItself(i) {
			loops |= b.pc
		}
	}
	for _, s := range m.steps { // these stand as they were read: a statement, its Body, its Else, the next one
		if s.Kind == api.StWhile {
			loops |= s.body.pc
		}
		for _, w := range m.diags(s) {
			if w.why > 0 && !m.c.Lattice().Leq(m.level(w.from), w.to) {
				out.Diags = append(out.Diags, api.Diag{At: s.At, Why: w.why})
			}
		}
	}
	out.Loops = m.level(loops)
	return out
}

// P18.2 a second way: expressions and queries are looked at as they are read.

type reading struct{ tables []api.Relation }

// nullSource is places, and of which it is known that they may be null.
type nullSource struct {
	places []api.Place
	nulls  []bool
}

func (r reading) mayBeNull(x api.Expr, s nullSource) bool {
	some := func(l ...api.Expr) bool {
		return slices.ContainsFunc(l, func(kid api.Expr) bool { return r.mayBeNull(kid, s) })
	}
	switch x.Kind {
	case api.ExBool, api.ExInt, api.ExText, api.ExIs, api.ExExists:
		return false
	case api.ExCol:
		return s.nulls[slices.IndexFunc(s.places, func(p api.Place) bool { return p.Name == x.S && (x.T == "" || x.T == p.T) })]
	case api.ExNeg, api.ExNot, api.ExBin:
		return some(x.Kids...)
	case api.ExCase:
		return some(x.Kids[1:]...)
	case api.ExIn:
		return some(x.Kids...) || r.queryNulls(x.Q[0])[0]
	case api.ExAgg:
		return x.S != "count"
	}
	return true
}

func (r reading) queryNulls(q api.Query) []bool {
	if q.Kind == api.QuSelect {
		var s nullSource
		if len(q.From) > 0 {
			s = r.from(q.From[0])
		}
		return numbered(len(q.Items), func(i int) bool { return r.mayBeNull(q.Items[i].E, s) })
	}
	a, b := r.queryNulls(q.Kids[0]), r.queryNulls(q.Kids[1])
	return numbered(len(a), func(i int) bool {
		return a[i] || b[i] && (q.Kind == api.QuUnion || q.Kind == api.QuUnionAll)
	})
}

func (r reading) from(f api.From) nullSource {
	var out nullSource
	switch f.Kind {
	case api.FrTable:
		for _, c := range r.tables[slices.IndexFunc(r.tables, func(t api.Relation) bool { return t.Name == f.Table })].Cols {
			out.places, out.nulls = append(out.places, api.Place{T: f.As, Name: c.Name}), append(out.nulls, c.Null)
		}
		return out
	case api.FrQuery:
		out.nulls = r.queryNulls(f.Q[0])
		for _, i := range head(f.Q[0]).Items {
			out.places = append(out.places, api.Place{T: f.As, Name: i.Name})
		}
		return out
	}
	a, b := r.from(f.Kids[0]), r.from(f.Kids[1])
	out.places = slices.Concat(a.places, b.places)
	out.nulls = append(a.nulls, numbered(len(b.nulls), func(i int) bool { return b.nulls[i] || f.Kind == api.FrLeft })...)
	return out
}

// P18.1, of scripts made over schemas of any kind: what the second way tells.
func TestMade(t *testing.T) {
	came, diags := map[string]int{}, map[int]int{}
	madeIn(t, 0, 8000, func(m *maker, x made) {
		got := flow.Check(m.c, x.p)
		want := modelOf(m, x).verdict(m.Rand)
		check(t, "the verdict", fmt.Sprintf("%+v", got), fmt.Sprintf("%+v", want))
		l := m.c.Lattice()
		for _, d := range got.Diags {
			diags[d.Why]++
		}
		for i := range got.Entry {
			switch {
			case !got.Can[i]:
				came["can't raise"]++
			case got.Raise[i] == l.Bottom():
				came["raises at Bottom"]++
			default:
				came["raises above"]++
			}
			if got.Entry[i] != l.Bottom() {
				came["called above"]++
			}
		}
		if len(got.Diags) == 0 {
			came["all may flow"]++
		}
		if got.Loops != l.Bottom() {
			came["loops above"]++
		}
	})
	enough(t, came, 1000, "can't raise", "raises at Bottom", "raises above", "called above", "all may flow", "loops above")
	enough(t, diags, 500, api.WhyPrint, api.WhyColumn, api.WhyRows, api.WhySaved, api.WhyInput)
}

// plansOf are all queries in a script's own statements, as they are read, and as they are done.
func plansOf(l []api.Stmt, ops []api.Op, try func(q api.Query, p api.Plan)) {
	for i, op := range ops {
		for j, p := range op.Plan {
			try(l[i].Q[j], p)
		}
		plansOf(l[i].Body, op.Body, try)
		plansOf(l[i].Else, op.Else, try)
	}
}

// P18.2, of queries made over schemas of any kind; and what may not be null never is.
func TestNullsMade(t *testing.T) {
	came := map[bool]int{}
	null := 0
	madeIn(t, 20000, 6000, func(m *maker, x made) {
		d := m.db()
		plansOf(x.s.Body, x.p.Procs[len(x.p.Procs)-1].Body, func(q api.Query, p api.Plan) {
			got := flow.Nulls(m.c, p)
			check(t, q, fmt.Sprint(got), fmt.Sprint(reading{m.tables}.queryNulls(q)))
			l, _ := engine.Rows(d, nil, p)
			for i, may := range got {
				came[may]++
				for _, row := range l {
					switch is := row[i] == value.Null(); {
					case is && !may:
						t.Errorf("%+v: null", q)
					case is:
						null++
					}
				}
			}
		})
	})
	enough(t, came, 1000, true, false)
	check(t, "nulls came", null > 1000, true)
}

// db has some rows in each table: those that may be there.
func (m *maker) db() *store.DB {
	d := store.New(m.c)
	for i, r := range m.tables {
		for range m.Intn(6) {
			d.Add(i, numbered(len(r.Cols), func(j int) api.Value { return m.value(r.Cols[j]) }))
		}
	}
	return d
}

func (m *maker) value(f api.Field) api.Value {
	if f.Null && m.often(25) {
		return value.Null()
	}
	return one(value.Null(), value.Bool(m.often(50)), value.Int(m.Intn(5)-1), value.Text(pick(m, "", "a", "b")))[f.Type]
}
