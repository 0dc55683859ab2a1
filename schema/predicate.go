package schema

import "cordon/api"

// isPredicate tells whether an expression that stands so deep is a predicate of the table, and nothing in it is too deep. It goes no further down than that, so it ends for an expression that holds itself, too.
func (t *table) isPredicate(x api.Expr, deep int) bool {
	if deep > api.MaxNest || len(x.Kids) != kidsOf(x.Kind) || !t.mayStand(x) {
		return false
	}
	for _, kid := range x.Kids {
		if !t.isPredicate(kid, deep+1) {
			return false
		}
	}
	return true
}

// kidsOf is how many kids a kind has, none if it may not stand in a predicate.
func kidsOf(kind int) int {
	n := 0
	switch kind {
	case api.ExCase:
		n++
		fallthrough
	case api.ExBin:
		n++
		fallthrough
	case api.ExNot, api.ExIs:
		n++
		fallthrough
	case api.ExNull, api.ExBool, api.ExInt, api.ExText, api.ExCol:
		return n
	}
	return none
}

// mayStand looks at what an expression says, its kids aside; what its kind has not, it does not say.
func (t *table) mayStand(x api.Expr) bool {
	switch x.Kind {
	case api.ExBool:
		return x.N == 0 || x.N == 1
	case api.ExText:
		return len(x.S) <= api.MaxText
	case api.ExCol:
		_, is := t.places[x.S]
		return is && (x.T == "" || x.T == t.asked.Name)
	case api.ExBin:
		return joins(x.S) || compares(x.S)
	}
	return true
}

func joins(mark string) bool { return mark == "or" || mark == "and" }

func compares(mark string) bool {
	switch mark {
	case "=", "<>", "<", "<=", ">", ">=":
		return true
	}
	return false
}

// typeOf is a predicate's type, none if it, or a part of it, has none.
func (t *table) typeOf(x api.Expr) int {
	var of [3]int
	for i, kid := range x.Kids {
		if of[i] = t.typeOf(kid); of[i] == none {
			return none
		}
	}
	switch x.Kind {
	case api.ExInt:
		return api.TyInt
	case api.ExText:
		return api.TyText
	case api.ExCol:
		return t.known.Cols[t.places[x.S]].Type
	case api.ExCase:
		if !isLogical(of[0]) {
			return none
		}
		return united(of[1], of[2])
	case api.ExBin:
		if compares(x.S) {
			return truthIf(united(of[0], of[1]) != none)
		}
		fallthrough
	case api.ExNot: // the second kid that it has not is taken as null, which fits
		return truthIf(isLogical(of[0]) && isLogical(of[1]))
	case api.ExBool, api.ExIs:
		return api.TyBool
	}
	return api.TyNull
}

func isLogical(kind int) bool { return kind == api.TyBool || kind == api.TyNull }

func truthIf(holds bool) int {
	if holds {
		return api.TyBool
	}
	return none
}

// united is the type of either of two, none if they are not of one type.
func united(a, b int) int {
	switch {
	case a == api.TyNull:
		return b
	case b == api.TyNull || a == b:
		return a
	}
	return none
}

// isLow asks that whoever sees which rows there are may see all columns in a predicate, as rows that are hidden tell them.
func (t *table) isLow(x api.Expr) bool {
	if x.Kind == api.ExCol && !t.columnIsLow(t.places[x.S]) {
		return false
	}
	for _, kid := range x.Kids {
		if !t.isLow(kid) {
			return false
		}
	}
	return true
}
