package syntax

import "cordon/api"

// noStmt is the kind of what begins no statement.
const noStmt = 0

func (r *reader) script() api.Script {
	vars := r.decls()
	procs := each(r, "proc", r.proc)
	return api.Script{Vars: vars, Procs: procs, Body: r.stmts()}
}

func (r *reader) decls() []api.Var { return each(r, "var", r.decl) }

func (r *reader) decl() api.Var {
	out := r.variable()
	r.want(";")
	return out
}

func (r *reader) variable() api.Var {
	name := r.name()
	return api.Var{Name: name, Type: r.valueType()}
}

// proc has braces of its own, which are no block: what stands in them is no deeper than the script.
func (r *reader) proc() api.Proc {
	p := api.Proc{Name: r.name()}
	p.Params = listInBrackets(r, r.variable)
	r.want("{")
	p.Vars = r.decls()
	p.Body = r.stmts()
	r.want("}")
	return p
}

func (r *reader) block() []api.Stmt {
	return deeper(r, func() []api.Stmt {
		r.want("{")
		out := r.stmts()
		r.want("}")
		return out
	})
}

func (r *reader) stmts() []api.Stmt {
	var out []api.Stmt
	for {
		first := r.left[0]
		kind := stmtKind(first.Text)
		if kind == noStmt || !r.takeKind(api.TkName) {
			return out
		}
		s := api.Stmt{Kind: kind, At: first.At}
		r.fill(&s)
		out = append(out, s)
	}
}

// stmtKind is the kind of the statements that begin with a word. Each insert is a StInsert till what it inserts is seen.
func stmtKind(word string) int {
	switch word {
	case "set":
		return api.StSet
	case "if":
		return api.StIf
	case "while":
		return api.StWhile
	case "for":
		return api.StFor
	case "print":
		return api.StPrint
	case "input":
		return api.StInput
	case "insert":
		return api.StInsert
	case "update":
		return api.StUpdate
	case "delete":
		return api.StDelete
	case "try":
		return api.StTry
	case "raise":
		return api.StRaise
	case "call":
		return api.StCall
	case "begin":
		return api.StBegin
	case "commit":
		return api.StCommit
	case "rollback":
		return api.StRollback
	case "skip":
		return api.StSkip
	}
	return noStmt
}

// fill reads what stands behind a statement's first word. Those that end with a block have no ; behind it.
func (r *reader) fill(s *api.Stmt) {
	switch s.Kind {
	case api.StIf:
		s.E = []api.Expr{r.expr()}
		s.Body = r.block()
		if r.take("else") {
			s.Else = r.block()
		}
	case api.StWhile:
		s.E = []api.Expr{r.expr()}
		s.Body = r.block()
	case api.StFor:
		s.Names = list(r, ",", r.name)
		r.want("in")
		s.Q = []api.Query{r.query()}
		s.Body = r.block()
	case api.StTry:
		s.Body = r.block()
		r.want("catch")
		s.Else = r.block()
	default:
		r.fillPlain(s)
		r.want(";")
	}
}

// fillPlain reads what stands between the first word and the ; of a statement without blocks: of some kinds nothing.
func (r *reader) fillPlain(s *api.Stmt) {
	switch s.Kind {
	case api.StSet:
		assign(s, r.assigned())
	case api.StInput:
		s.Names = []string{r.name()}
	case api.StPrint:
		s.Table = r.name()
		s.E = []api.Expr{r.expr()}
	case api.StInsert:
		r.want("into")
		s.Table = r.name()
		r.fillInsert(s)
	case api.StUpdate:
		s.Table = r.name()
		r.want("set")
		assign(s, list(r, ",", r.assigned)...)
		s.Where = behind(r, "where", r.expr)
	case api.StDelete:
		r.want("from")
		s.Table = r.name()
		s.Where = behind(r, "where", r.expr)
	case api.StCall:
		s.Table = r.name()
		s.E = listInBrackets(r, r.expr)
	}
}

func (r *reader) fillInsert(s *api.Stmt) {
	if r.take("values") {
		s.E = inBrackets(r, func() []api.Expr { return list(r, ",", r.expr) })
		return
	}
	s.Kind = api.StInsertQ
	s.Q = []api.Query{r.query()}
}

func (r *reader) assigned() api.Item {
	name := r.name()
	r.want("=")
	return api.Item{E: r.expr(), Name: name}
}

// assign parts what is assigned into names and expressions.
func assign(s *api.Stmt, items ...api.Item) {
	for _, i := range items {
		s.Names = append(s.Names, i.Name)
		s.E = append(s.E, i.E)
	}
}
