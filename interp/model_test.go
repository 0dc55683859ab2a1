package interp_test

import (
	"slices"

	"cordon/api"
	"cordon/change"
	"cordon/engine"
	"cordon/schema"
	"cordon/store"
)

// The second way: what is still to be done lies on one pile, and an error takes from it all down to the next catch; tables are plain lists of rows, of which a store is made for each statement; variables are a list; steps are counted up.

const (
	doList  = iota // statements, from next on
	doTurn         // a while
	doRows         // a for, with the rows that are still to come
	doCatch        // a try that is not left yet
	doBack         // a call that is not left yet
)

type task struct {
	kind int
	list []api.Op
	op   api.Op
	rows []rowOf
	vars *[]api.Bound
}

type machine struct {
	catalog *schema.Catalog
	procs   []api.Code
	tables  [][]rowOf
	saved   [][]rowOf
	isSaved bool
	told    []api.Out
	inputs  []int
	used    int // inputs that are not left
	steps   int
	most    int // steps
	pile    []task
}

func second(a ask) answer {
	if a.db.Catalog() == nil || len(a.program.Procs) == 0 {
		return answer{err: api.ErrNil}
	}
	m := machine{catalog: a.db.Catalog(), procs: a.program.Procs, tables: tablesOf(a.db), inputs: a.inputs, most: max(0, min(5000, a.fuel))}
	last := m.procs[len(m.procs)-1]
	m.push(task{kind: doList, list: last.Body, vars: nulls(last)})
	err := m.all()
	return answer{m.db(), m.told, err}
}

// nulls are the variables of a procedure, as they are at first.
func nulls(c api.Code) *[]api.Bound {
	all := slices.Concat(c.Vars, c.Params)
	out := numbered(len(all), func(i int) api.Bound { return api.Bound{Name: all[i].Name} })
	return &out
}

func assign(vars *[]api.Bound, name string, v api.Value) {
	for i := range *vars {
		if (*vars)[i].Name == name {
			(*vars)[i].Value = v
		}
	}
}

func (m *machine) push(t task) { m.pile = append(m.pile, t) }

func (m *machine) pop() task {
	t := m.pile[len(m.pile)-1]
	m.pile = m.pile[:len(m.pile)-1]
	return t
}

func (m *machine) db() *store.DB { return loaded(m.catalog, m.tables...) }

// all does what lies on the pile.
func (m *machine) all() api.Errno {
	for len(m.pile) > 0 {
		err := m.do(m.pop())
		if err == api.OK {
			continue
		}
		if !slices.Contains(one(4, 5, 6, 7, 8, 16, 17), int(err)) {
			return err
		}
		for len(m.pile) > 0 && m.pile[len(m.pile)-1].kind != doCatch {
			m.pop()
		}
		if len(m.pile) == 0 {
			return err
		}
		t := m.pop()
		m.push(task{kind: doList, list: t.op.Else, vars: t.vars})
	}
	return api.OK
}

func (m *machine) step() bool {
	m.steps++
	return m.steps <= m.most
}

func (m *machine) do(t task) api.Errno {
	switch t.kind {
	case doList:
		if len(t.list) == 0 {
			return api.OK
		}
		if !m.step() {
			return api.ErrFuel
		}
		m.push(task{kind: doList, list: t.list[1:], vars: t.vars})
		return m.begun(t.list[0], t.vars)
	case doTurn:
		if !m.step() {
			return api.ErrFuel
		}
		v, err := m.value(t.vars, t.op)
		if err == api.OK && v == val(true) {
			m.push(t)
			m.push(task{kind: doList, list: t.op.Body, vars: t.vars})
		}
		return err
	case doRows:
		if len(t.rows) == 0 {
			return api.OK
		}
		if !m.step() {
			return api.ErrFuel
		}
		for i, name := range t.op.Names {
			if i < len(t.rows[0]) {
				assign(t.vars, name, t.rows[0][i])
			}
		}
		m.push(task{kind: doRows, op: t.op, rows: t.rows[1:], vars: t.vars})
		m.push(task{kind: doList, list: t.op.Body, vars: t.vars})
	}
	return api.OK
}

// value is what a statement's first expression comes to.
func (m *machine) value(vars *[]api.Bound, op api.Op) (api.Value, api.Errno) {
	if len(op.E) == 0 {
		return api.Value{}, api.ErrArg
	}
	return engine.Value(m.db(), *vars, nil, op.E[0])
}

// begun does a statement, or puts on the pile what is to be done for it.
func (m *machine) begun(op api.Op, vars *[]api.Bound) api.Errno {
	switch op.Kind {
	case api.StSet, api.StPrint, api.StIf:
		v, err := m.value(vars, op)
		if err != api.OK {
			return err
		}
		m.valued(op, vars, v)
	case api.StInput:
		v := val(nil)
		if m.used < len(m.inputs) {
			v = val(m.inputs[m.used])
			m.used++
		}
		if len(op.Names) > 0 {
			assign(vars, op.Names[0], v)
		}
	case api.StWhile:
		m.push(task{kind: doTurn, op: op, vars: vars})
	case api.StFor:
		if len(op.Plan) == 0 {
			return api.ErrArg
		}
		rows, err := engine.Rows(m.db(), *vars, op.Plan[0])
		if err != api.OK {
			return err
		}
		m.push(task{kind: doRows, op: op, rows: rows, vars: vars})
	case api.StTry:
		m.push(task{kind: doCatch, op: op, vars: vars})
		m.push(task{kind: doList, list: op.Body, vars: vars})
	case api.StCall:
		return m.called(op, vars)
	case api.StRaise:
		return api.ErrRaise
	case api.StSkip:
	default:
		return m.stored(op, vars)
	}
	return api.OK
}

// valued goes on with a statement whose expression is done.
func (m *machine) valued(op api.Op, vars *[]api.Bound, v api.Value) {
	switch {
	case op.Kind == api.StSet && len(op.Names) > 0:
		assign(vars, op.Names[0], v)
	case op.Kind == api.StPrint:
		m.told = append(m.told, api.Out{Channel: op.N, Value: v})
	case op.Kind == api.StIf && v == val(true):
		m.push(task{kind: doList, list: op.Body, vars: vars})
	case op.Kind == api.StIf:
		m.push(task{kind: doList, list: op.Else, vars: vars})
	}
}

func (m *machine) called(op api.Op, vars *[]api.Bound) api.Errno {
	var given []api.Value
	for _, n := range op.E {
		v, err := m.value(vars, api.Op{E: one(n)})
		if err != api.OK {
			return err
		}
		given = append(given, v)
	}
	if op.N < 0 || op.N >= len(m.procs) {
		return api.ErrArg
	}
	calls := 0
	for _, t := range m.pile {
		if t.kind == doBack {
			calls++
		}
	}
	if calls == 50 {
		return api.ErrFuel
	}
	of := m.procs[op.N]
	own := nulls(of)
	for i := range min(len(given), len(of.Params)) {
		assign(own, of.Params[i].Name, given[i])
	}
	m.push(task{kind: doBack})
	m.push(task{kind: doList, list: of.Body, vars: own})
	return api.OK
}

// stored does a statement that has to do with tables alone.
func (m *machine) stored(op api.Op, vars *[]api.Bound) api.Errno {
	d, err := m.db(), api.OK
	switch op.Kind {
	case api.StInsert:
		err = change.Insert(d, *vars, op.N, op.E)
	case api.StInsertQ:
		if len(op.Plan) == 0 {
			return api.ErrArg
		}
		err = change.InsertRows(d, *vars, op.N, op.Plan[0])
	case api.StUpdate:
		_, err = change.Update(d, *vars, op.N, op.Cols, op.E, op.Where)
	case api.StDelete:
		_, err = change.Delete(d, *vars, op.N, op.Where)
	case api.StBegin:
		if !m.isSaved {
			m.saved, m.isSaved = m.tables, true
		}
		return api.OK
	case api.StCommit:
		m.isSaved = false
		return api.OK
	case api.StRollback:
		if m.isSaved {
			m.tables, m.isSaved = m.saved, false
		}
		return api.OK
	default:
		return api.ErrArg
	}
	if err == api.OK {
		m.tables = tablesOf(d)
	}
	return err
}
