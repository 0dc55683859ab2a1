package engine

import (
	"cordon/api"
	"cordon/rows"
	"cordon/value"
)

// value is what a term comes to, of a row.
func (w work) value(t term, row rows.Row) (api.Value, api.Errno) {
	switch t.kind {
	case api.ExNull:
		return value.Null(), api.OK
	case api.ExBool:
		return value.Bool(t.n == 1), api.OK
	case api.ExInt:
		return value.Int(t.n), api.OK
	case api.ExText:
		return value.Text(t.s), api.OK
	case api.ExCol:
		return valueAt(row, t.n), api.OK
	case api.ExVar:
		return w.variable(t.s), api.OK
	case api.ExCase:
		return w.chosen(t, row)
	}
	return w.reckoned(t, row)
}

// valueAt is a row's value, or null, if it has none there.
func valueAt(row rows.Row, place int) api.Value {
	if place < 0 || place >= len(row) {
		return value.Null()
	}
	return row[place]
}

// chosen does just one of the second and the third kid.
func (w work) chosen(t term, row rows.Row) (api.Value, api.Errno) {
	is, err := w.kid(t, 0, row)
	switch {
	case err != api.OK:
		return api.Value{}, err
	case value.True(is):
		return w.kid(t, 1, row)
	}
	return w.kid(t, 2, row)
}

// kid is what a kid comes to, or null, if there is none.
func (w work) kid(t term, i int, row rows.Row) (api.Value, api.Errno) {
	if i >= len(t.kids) {
		return value.Null(), api.OK
	}
	return w.value(t.kids[i], row)
}

// reckoned is what comes of all kids, and of the query. No kid is left out, whatever the others come to.
func (w work) reckoned(t term, row rows.Row) (api.Value, api.Errno) {
	var kids [2]api.Value
	for i := range kids {
		v, err := w.kid(t, i, row)
		if err != api.OK {
			return api.Value{}, err
		}
		kids[i] = v
	}
	switch t.kind {
	case api.ExNeg:
		return value.Neg(kids[0])
	case api.ExNot:
		return value.Not(kids[0])
	case api.ExIs:
		return value.Bool((kids[0] == value.Null()) != (t.n == 1)), api.OK
	case api.ExBin:
		return marked(t.s, kids[0], kids[1])
	case api.ExExists, api.ExScalar, api.ExIn:
		return w.asked(t, kids[0])
	}
	return api.Value{}, api.ErrArg
}

// asked is what comes of a query, and, of an ExIn, of the kid that was done ahead of it.
func (w work) asked(t term, kid api.Value) (api.Value, api.Errno) {
	l, err := w.answer(t.query)
	switch {
	case err != api.OK:
		return api.Value{}, err
	case t.kind == api.ExExists:
		return value.Bool(len(l) > 0), api.OK
	case t.kind == api.ExIn:
		return isIn(kid, l, t.n == 1)
	case len(l) > 1:
		return api.Value{}, api.ErrSingle
	case len(l) == 0:
		return value.Null(), api.OK
	}
	return valueAt(l[0], 0), api.OK
}

// isIn is Or of what Eq tells of each row, as that is null just where the kid or the row's value is; of no rows it is false. (Or of what Eq tells has no error.)
func isIn(kid api.Value, l []rows.Row, not bool) (api.Value, api.Errno) {
	found := value.Bool(false)
	for _, row := range l {
		is, err := value.Eq(kid, valueAt(row, 0))
		if err != api.OK {
			return api.Value{}, err
		}
		found, _ = value.Or(found, is)
	}
	if not {
		return value.Not(found)
	}
	return found, api.OK
}
