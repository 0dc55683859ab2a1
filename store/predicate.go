package store

import (
	"cordon/api"
	"cordon/value"
)

// hides tells whether a row is hidden, also one that does not fit.
func (t *table) hides(row []api.Value) bool {
	return len(t.known.When) > 0 && value.True(t.comesTo(t.known.When[0], row))
}

// comesTo is what a part of the predicate comes to, of a row.
func (t *table) comesTo(x api.Expr, row []api.Value) api.Value {
	kid := func(i int) api.Value { return t.comesTo(x.Kids[i], row) }
	switch x.Kind {
	case api.ExBool:
		return value.Bool(x.N == 1)
	case api.ExInt:
		return value.Int(x.N)
	case api.ExText:
		return value.Text(x.S)
	case api.ExCol:
		return valueAt(row, t.cols[x.S])
	case api.ExNot:
		return orNull(value.Not(kid(0)))
	case api.ExIs:
		return value.Bool((kid(0) == value.Null()) != (x.N == 1))
	case api.ExBin:
		return joined(x.S, kid(0), kid(1))
	case api.ExCase:
		if value.True(kid(0)) {
			return kid(1)
		}
		return kid(2)
	}
	return value.Null()
}

// valueAt is a row's value, or null, if the row ends ahead of it.
func valueAt(row []api.Value, place int) api.Value {
	if place >= len(row) {
		return value.Null()
	}
	return row[place]
}

// orNull is an answer, or null, if there is none.
func orNull(v api.Value, err api.Errno) api.Value {
	if err != api.OK {
		return value.Null()
	}
	return v
}

// joined is what two values come to by a mark, or a word.
func joined(mark string, a, b api.Value) api.Value {
	switch mark {
	case "and":
		return orNull(value.And(a, b))
	case "or":
		return orNull(value.Or(a, b))
	}
	return compared(mark, a, b)
}

// compared asks Eq or Less alone: each other mark is one of these the other way round, or Not of it, so they fall through to one another.
func compared(mark string, a, b api.Value) api.Value {
	ask, not := value.Less, false
	switch mark {
	case "<>":
		not = true
		fallthrough
	case "=":
		ask = value.Eq
	case "<=":
		not = true
		fallthrough
	case ">":
		a, b = b, a
	case ">=":
		not = true
	}
	answer := orNull(ask(a, b))
	if not {
		return orNull(value.Not(answer))
	}
	return answer
}
