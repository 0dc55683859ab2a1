package interp

import (
	"cordon/api"
	"cordon/change"
	"cordon/engine"
	"cordon/store"
	"cordon/value"
)

// maxCalls is how many calls may be within one another.
const maxCalls = 50

// run is a program that is done, and what all of its procedures have in common.
type run struct {
	procs  []api.Code
	tables *store.DB
	saved  *store.DB // nil, if no copy is
	told   []api.Out
	inputs []int // those that are left
	fuel   int
}

func (r *run) step() api.Errno {
	if r.fuel <= 0 {
		return api.ErrFuel
	}
	r.fuel--
	return api.OK
}

// block does statements. Each takes a step, so that blocks and calls within one another are never deeper than there was fuel.
func (r *run) block(in scope, list []api.Op) api.Errno {
	for _, op := range list {
		if err := r.step(); err != api.OK {
			return err
		}
		if err := r.statement(in, op); err != api.OK {
			return err
		}
	}
	return api.OK
}

func (r *run) statement(in scope, op api.Op) api.Errno {
	switch op.Kind {
	case api.StSet:
		return r.set(in, op)
	case api.StPrint:
		return r.print(in, op)
	case api.StInput:
		r.input(in, op)
	case api.StIf:
		return r.choose(in, op)
	case api.StWhile:
		return r.repeat(in, op)
	case api.StFor:
		return r.each(in, op)
	case api.StInsert, api.StInsertQ, api.StUpdate, api.StDelete:
		return r.alter(in, op)
	case api.StTry:
		return r.attempt(in, op)
	case api.StCall:
		return r.call(in, op)
	case api.StBegin, api.StCommit, api.StRollback:
		r.save(op.Kind)
	case api.StSkip:
	case api.StRaise:
		return api.ErrRaise
	default:
		return api.ErrArg
	}
	return api.OK
}

// value is what an expression comes to, outside of tables: so there is no row.
func (r *run) value(in scope, n api.Node) (api.Value, api.Errno) {
	return engine.Value(r.tables, in.bound(), nil, n)
}

// first is the one part that a statement has; one that is not there is the zero one, which layer 13 refuses.
func first[T any](list []T) T {
	var none T
	if len(list) == 0 {
		return none
	}
	return list[0]
}

func (r *run) set(in scope, op api.Op) api.Errno {
	v, err := r.value(in, first(op.E))
	if err != api.OK {
		return err
	}
	in.set(op.Names, []api.Value{v})
	return api.OK
}

func (r *run) print(in scope, op api.Op) api.Errno {
	v, err := r.value(in, first(op.E))
	if err != api.OK {
		return err
	}
	r.told = append(r.told, api.Out{Channel: op.N, Value: v})
	return api.OK
}

func (r *run) input(in scope, op api.Op) {
	v := value.Null()
	if len(r.inputs) > 0 {
		v, r.inputs = value.Int(r.inputs[0]), r.inputs[1:]
	}
	in.set(op.Names, []api.Value{v})
}

func (r *run) choose(in scope, op api.Op) api.Errno {
	is, err := r.value(in, first(op.E))
	switch {
	case err != api.OK:
		return err
	case value.True(is):
		return r.block(in, op.Body)
	}
	return r.block(in, op.Else)
}

// repeat takes a step for each turn, also for the one that ends it: an empty block that goes on for ever ends for want of fuel.
func (r *run) repeat(in scope, op api.Op) api.Errno {
	for {
		if err := r.step(); err != api.OK {
			return err
		}
		is, err := r.value(in, first(op.E))
		if err != api.OK || !value.True(is) {
			return err
		}
		if err := r.block(in, op.Body); err != api.OK {
			return err
		}
	}
}

// each has all rows ahead of the first turn, so that what its block does to tables changes none of them.
func (r *run) each(in scope, op api.Op) api.Errno {
	rows, err := engine.Rows(r.tables, in.bound(), first(op.Plan))
	if err != api.OK {
		return err
	}
	for _, row := range rows {
		if err := r.step(); err != api.OK {
			return err
		}
		in.set(op.Names, row)
		if err := r.block(in, op.Body); err != api.OK {
			return err
		}
	}
	return api.OK
}

func (r *run) alter(in scope, op api.Op) api.Errno {
	vars, err := in.bound(), api.OK
	switch op.Kind {
	case api.StInsert:
		err = change.Insert(r.tables, vars, op.N, op.E)
	case api.StInsertQ:
		err = change.InsertRows(r.tables, vars, op.N, first(op.Plan))
	case api.StUpdate:
		_, err = change.Update(r.tables, vars, op.N, op.Cols, op.E, op.Where)
	case api.StDelete:
		_, err = change.Delete(r.tables, vars, op.N, op.Where)
	}
	return err
}

func (r *run) attempt(in scope, op api.Op) api.Errno {
	err := r.block(in, op.Body)
	if !Catches(err) {
		return err
	}
	return r.block(in, op.Else)
}

// call does its expressions in the frame of who calls, ahead of the question whether one more call may be.
func (r *run) call(in scope, op api.Op) api.Errno {
	var given []api.Value
	for _, n := range op.E {
		v, err := r.value(in, n)
		if err != api.OK {
			return err
		}
		given = append(given, v)
	}
	switch {
	case op.N < 0 || op.N >= len(r.procs):
		return api.ErrArg
	case in.calls >= maxCalls:
		return api.ErrFuel
	}
	return r.block(newScope(r.procs[op.N], given, in.calls+1), r.procs[op.N].Body)
}

// save keeps, forgets or takes back a copy of the tables. What is taken back is not saved any more, as after a commit, so a rollback falls through to that.
func (r *run) save(kind int) {
	switch kind {
	case api.StBegin:
		if r.saved == nil {
			r.saved = r.tables.Copy()
		}
	case api.StRollback:
		if r.saved != nil {
			r.tables = r.saved
		}
		fallthrough
	case api.StCommit:
		r.saved = nil
	}
}
