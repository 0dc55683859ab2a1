package unparse

import "cordon/api"

func rightScript(x api.Script) bool {
	return every(x.Vars, rightVar) && every(x.Procs, rightProc) && every(x.Body, rightStmt)
}

func rightVar(x api.Var) bool { return rightName(x.Name) && rightType(x.Type) }

func rightProc(x api.Proc) bool {
	return rightName(x.Name) && every(x.Params, rightVar) && every(x.Vars, rightVar) && every(x.Body, rightStmt)
}

// parts is how many of each a statement has.
type parts struct {
	tables, names, exprs, queries, wheres, body, other int
}

func rightStmt(x api.Stmt) bool {
	want, ok := wanted(x)
	return ok && partsOf(x) == want && (x.Table == "" || rightName(x.Table)) && every(x.Names, rightName) &&
		rightExprs(x.E, x.Where) && every(x.Q, rightQuery) && every(x.Body, rightStmt) && every(x.Else, rightStmt)
}

func partsOf(x api.Stmt) parts {
	out := parts{names: len(x.Names), exprs: len(x.E), queries: len(x.Q), wheres: len(x.Where), body: len(x.Body), other: len(x.Else)}
	if x.Table != "" {
		out.tables = 1
	}
	return out
}

// wanted is how many of each a statement must have by its kind: where there may be any number, it is as many as there are. ok: there is such a kind.
func wanted(x api.Stmt) (want parts, ok bool) {
	switch x.Kind {
	case api.StSet:
		return parts{names: 1, exprs: 1}, true
	case api.StInput:
		return parts{names: 1}, true
	case api.StIf:
		want.other = len(x.Else)
		fallthrough
	case api.StWhile:
		want.exprs, want.body = 1, len(x.Body)
		return want, true
	case api.StFor:
		return parts{names: max(1, len(x.Names)), queries: 1, body: len(x.Body)}, true
	case api.StTry:
		return parts{body: len(x.Body), other: len(x.Else)}, true
	case api.StPrint:
		return parts{tables: 1, exprs: 1}, true
	case api.StInsert:
		return parts{tables: 1, exprs: max(1, len(x.E))}, true
	case api.StInsertQ:
		return parts{tables: 1, queries: 1}, true
	case api.StUpdate:
		want.names = max(1, len(x.Names))
		want.exprs = want.names
		fallthrough
	case api.StDelete:
		want.tables, want.wheres = 1, min(1, len(x.Where))
		return want, true
	case api.StCall:
		return parts{tables: 1, exprs: len(x.E)}, true
	case api.StRaise, api.StBegin, api.StCommit, api.StRollback, api.StSkip:
		return parts{}, true
	}
	return parts{}, false
}

func rightSchema(x api.Schema) bool {
	return every(x.Levels, rightName) && rightPairs(x.Edges, x.Channels, x.Principals) && every(x.Tables, rightTable) && rightNumber(x.Limit)
}

func rightPairs(lists ...[]api.Pair) bool {
	for _, l := range lists {
		if !every(l, func(p api.Pair) bool { return rightName(p.Low) && rightName(p.High) }) {
			return false
		}
	}
	return true
}

func rightTable(x api.Table) bool {
	return rightName(x.Name) && rightName(x.Rows) && len(x.Cols) > 0 && every(x.Cols, rightCol) && every(x.Key, rightName) && rightHide(x)
}

// rightHide: a level of hidden rows stands just beside what hides them.
func rightHide(x api.Table) bool {
	if x.Hide == "" && len(x.When) == 0 {
		return true
	}
	return rightName(x.Hide) && len(x.When) == 1 && rightExprs(x.When)
}

func rightCol(x api.Col) bool {
	return rightName(x.Name) && rightType(x.Type) && rightName(x.Level)
}
