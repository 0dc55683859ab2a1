package types

import "cordon/api"

// parts are the types of an expression's kids, and behind them that of its query's column, where it asks for just one.
type parts [3]int

func (l look) partsOf(x api.Expr) (parts, api.Errno) {
	var of parts
	for i, kid := range x.Kids {
		kind, err := l.typeOf(kid)
		if err != api.OK {
			return parts{}, err
		}
		of[i] = kind
	}
	for _, q := range x.Q {
		cols, err := l.columns(q)
		if err != api.OK {
			return parts{}, err
		}
		if x.Kind == api.ExExists {
			continue
		}
		if len(cols) != 1 {
			return parts{}, api.ErrShape
		}
		of[len(x.Kids)] = cols[0].Type
	}
	return of, api.OK
}

// typeOf is the type of an expression that is right (7), so that it has as many kids and queries as its kind asks for.
func (l look) typeOf(x api.Expr) (int, api.Errno) {
	if x.Kind == api.ExAgg {
		return l.gathered(x)
	}
	of, err := l.partsOf(x)
	if err != api.OK {
		return 0, err
	}
	switch x.Kind {
	case api.ExInt:
		return api.TyInt, api.OK
	case api.ExText:
		return api.TyText, api.OK
	case api.ExCol:
		return l.column(x)
	case api.ExVar:
		return l.variable(x.S)
	case api.ExNeg:
		return all(api.TyInt, of[0])
	case api.ExNot:
		return all(api.TyBool, of[0])
	case api.ExBin:
		return operator(x.S, of[0], of[1])
	case api.ExCase:
		return choice(of)
	case api.ExScalar:
		return of[0], api.OK
	case api.ExIn:
		if _, err := united(of[0], of[1]); err != api.OK {
			return 0, err
		}
		fallthrough
	case api.ExBool, api.ExIs, api.ExExists:
		return api.TyBool, api.OK
	}
	return api.TyNull, api.OK
}

// gathered asks whether an ExAgg may stand there ahead of its kid, which has rows to look at just if it may. What is gathered is told of each row for itself, so no other ExAgg may stand in it.
func (l look) gathered(x api.Expr) (int, api.Errno) {
	if l.mode != ofGroups {
		return 0, api.ErrShape
	}
	of, err := l.over(l.places).partsOf(x)
	if err != api.OK {
		return 0, err
	}
	switch x.S {
	case "count":
		return api.TyInt, api.OK
	case "sum":
		return all(api.TyInt, of[0])
	}
	return of[0], api.OK
}

func choice(of parts) (int, api.Errno) {
	if _, err := all(api.TyBool, of[0]); err != api.OK {
		return 0, err
	}
	return united(of[1], of[2])
}

// operator is the type of what a mark, or a word, makes of two types.
func operator(mark string, a, b int) (int, api.Errno) {
	switch mark {
	case "+", "-", "*", "/", "%":
		return all(api.TyInt, a, b)
	case "||":
		return all(api.TyText, a, b)
	case "or", "and":
		if _, err := all(api.TyBool, a, b); err != api.OK {
			return 0, err
		}
		fallthrough // two that are logical are of one type, too
	default:
		if _, err := united(a, b); err != api.OK {
			return 0, err
		}
		return api.TyBool, api.OK
	}
}

// all is a kind, if all of some types are that, or TyNull.
func all(kind int, of ...int) (int, api.Errno) {
	for _, k := range of {
		if k != kind && k != api.TyNull {
			return 0, api.ErrType
		}
	}
	return kind, api.OK
}

// united is the one type that two are.
func united(a, b int) (int, api.Errno) {
	if a == api.TyNull {
		return b, api.OK
	}
	return all(a, b)
}
