package unparse

import (
	"cordon/api"
	"cordon/token"
)

const (
	maxNumber = 999999999999999999 // 10^18 - 1: as many digits as a token may have
	noLimit   = -1
)

// rightName asks layer 5, so that just what it scans as one name is one.
func rightName(s string) bool {
	tokens, _, err := token.Scan(s)
	return err == api.OK && tokens[0].Kind == api.TkName && tokens[0].Text == s && !token.Word(s)
}

func rightNumber(n int) bool { return n >= 0 && n <= maxNumber }

// rightText looks at letters, of which just those of one byte can be below 32.
func rightText(s string) bool {
	for _, letter := range s {
		if letter < ' ' && letter != '\n' {
			return false
		}
	}
	return len(s) <= api.MaxText
}

func rightType(kind int) bool {
	switch kind {
	case api.TyBool, api.TyInt, api.TyText:
		return true
	}
	return false
}

func isFlag(n int) bool { return n == 0 || n == 1 }

// every tells whether all members of a list are right.
func every[T any](l []T, right func(x T) bool) bool {
	for _, x := range l {
		if !right(x) {
			return false
		}
	}
	return true
}

// rightExprs tells whether all of some lists are right.
func rightExprs(lists ...[]api.Expr) bool {
	for _, l := range lists {
		if !every(l, rightExpr) {
			return false
		}
	}
	return true
}

// atMost tells whether no list has more members than so many.
func atMost(n int, sizes ...int) bool {
	for _, size := range sizes {
		if size > n {
			return false
		}
	}
	return true
}

// rightExpr takes away what its kind has, once that is looked at: what is left must be zero.
func rightExpr(x api.Expr) bool {
	kids, queries, ok := 0, 0, true
	switch x.Kind {
	case api.ExNull:
	case api.ExBool:
		ok, x.N = isFlag(x.N), 0
	case api.ExInt:
		ok, x.N = rightNumber(x.N), 0
	case api.ExText:
		ok, x.S = rightText(x.S), ""
	case api.ExCol:
		ok, x.T = x.T == "" || rightName(x.T), ""
		fallthrough
	case api.ExVar:
		ok, x.S = ok && rightName(x.S), ""
	case api.ExIn:
		queries = 1
		fallthrough
	case api.ExIs:
		ok, x.N = isFlag(x.N), 0
		fallthrough
	case api.ExNeg, api.ExNot:
		kids = 1
	case api.ExBin:
		ok, x.S, kids = isBinary(x.S), "", 2
	case api.ExCase:
		kids = 3
	case api.ExExists, api.ExScalar:
		queries = 1
	case api.ExAgg:
		kids = gatheredKids(x)
		ok, x.S = gathers(x.S), ""
	default:
		ok = false
	}
	return ok && x.N == 0 && x.S == "" && x.T == "" && len(x.Kids) == kids && len(x.Q) == queries &&
		rightExprs(x.Kids) && every(x.Q, rightQuery)
}

// gatheredKids is how many kids an ExAgg must have: of a count without any, none.
func gatheredKids(x api.Expr) int {
	if x.S == "count" && len(x.Kids) == 0 {
		return 0
	}
	return 1
}

func isBinary(mark string) bool {
	switch mark {
	case "or", "and", "=", "<>", "<", "<=", ">", ">=", "+", "-", "||", "*", "/", "%":
		return true
	}
	return false
}

func gathers(name string) bool {
	switch name {
	case "count", "sum", "min", "max":
		return true
	}
	return false
}

func rightQuery(x api.Query) bool {
	switch x.Kind {
	case api.QuSelect:
		return rightSelect(x)
	case api.QuUnion, api.QuUnionAll, api.QuExcept, api.QuIntersect:
		return len(x.Kids) == 2 && x.Limit == noLimit && !x.Distinct &&
			atMost(0, len(x.Items), len(x.From), len(x.Where), len(x.Group), len(x.Having), len(x.Order)) &&
			every(x.Kids, rightQuery)
	}
	return false
}

func rightSelect(x api.Query) bool {
	lists := [3][]api.Expr{x.Where, x.Group, x.Having}
	return len(x.Kids) == 0 && len(x.Items) > 0 && atMost(1, len(x.From), len(x.Where), len(x.Having)) &&
		(len(x.Having) == 0 || len(x.Group) > 0) && (x.Limit == noLimit || rightNumber(x.Limit)) &&
		every(x.Items, func(i api.Item) bool { return rightName(i.Name) && rightExpr(i.E) }) &&
		every(x.From, rightFrom) && rightExprs(lists[:]...) &&
		every(x.Order, func(k api.Key) bool { return rightExpr(k.E) })
}

func rightFrom(x api.From) bool {
	switch x.Kind {
	case api.FrTable:
		return rightName(x.Table) && rightName(x.As) && atMost(0, len(x.Q), len(x.Kids), len(x.On))
	case api.FrQuery:
		return x.Table == "" && !x.Visible && rightName(x.As) && atMost(0, len(x.Kids), len(x.On)) &&
			len(x.Q) == 1 && every(x.Q, rightQuery)
	case api.FrJoin, api.FrLeft:
		return x.Table == "" && !x.Visible && x.As == "" && len(x.Q) == 0 && len(x.On) == 1 && len(x.Kids) == 2 &&
			standsAlone(x.Kids[1]) && every(x.Kids, rightFrom) && rightExprs(x.On)
	}
	return false
}

// standsAlone tells whether something is no join, so that it may stand behind one.
func standsAlone(x api.From) bool { return x.Kind == api.FrTable || x.Kind == api.FrQuery }
