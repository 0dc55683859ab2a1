package engine

import (
	"cordon/api"
	"cordon/value"
)

// marked is what two values come to by a mark, or a word.
func marked(mark string, a, b api.Value) (api.Value, api.Errno) {
	switch mark {
	case "and":
		return value.And(a, b)
	case "or":
		return value.Or(a, b)
	case "+":
		return value.Add(a, b)
	case "-":
		return value.Sub(a, b)
	case "*":
		return value.Mul(a, b)
	case "/":
		return value.Div(a, b)
	case "%":
		return value.Mod(a, b)
	case "||":
		return value.Concat(a, b)
	}
	return compared(mark, a, b)
}

// compared asks Eq or Less alone: each other mark is one of these the other way round, or Not of it, so they fall through to one another.
func compared(mark string, a, b api.Value) (api.Value, api.Errno) {
	ask, not := value.Less, false
	switch mark {
	case "<>":
		not = true
		fallthrough
	case "=":
		ask = value.Eq
	case "<=":
		not = true
		fallthrough
	case ">":
		a, b = b, a
	case ">=":
		not = true
		fallthrough
	case "<":
	default:
		return api.Value{}, api.ErrArg
	}
	is, err := ask(a, b)
	if err != api.OK || !not {
		return is, err
	}
	return value.Not(is)
}
