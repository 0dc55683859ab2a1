package unparse

import "cordon/api"

func (w *writer) script(x api.Script) {
	w.decls(x.Vars)
	for _, p := range x.Procs {
		w.proc(p)
	}
	w.stmts(x.Body)
}

func (w *writer) decls(l []api.Var) {
	for _, v := range l {
		w.line(func() {
			w.say("var")
			w.variable(v)
			w.say(";")
		})
	}
}

func (w *writer) variable(x api.Var) { w.say(x.Name, typeWord(x.Type)) }

func typeWord(kind int) string {
	switch kind {
	case api.TyBool:
		return "bool"
	case api.TyInt:
		return "int"
	}
	return "text"
}

// proc has its lines two blanks further in, as a block has, but they are no deeper: its braces are its own (6).
func (w *writer) proc(x api.Proc) {
	w.line(func() {
		w.say("proc")
		w.called(x.Name, func() { list(w, x.Params, w.variable) })
		w.say("{")
	})
	w.further(func() {
		w.decls(x.Vars)
		w.stmts(x.Body)
	})
	w.sayLine("}")
}

func (w *writer) stmts(l []api.Stmt) {
	for _, s := range l {
		w.stmt(s)
	}
}

// block writes what stands between the lines of its braces.
func (w *writer) block(l []api.Stmt) {
	w.deeper(func() {
		w.further(func() { w.stmts(l) })
	})
}

func (w *writer) stmt(x api.Stmt) {
	switch x.Kind {
	case api.StIf, api.StWhile, api.StFor, api.StTry:
		w.line(func() {
			w.head(x)
			w.say("{")
		})
		w.block(x.Body)
		w.second(x)
		w.sayLine("}")
	default:
		w.line(func() {
			w.plain(x)
			w.say(";")
		})
	}
}

// head writes what stands ahead of the first block of a statement.
func (w *writer) head(x api.Stmt) {
	switch x.Kind {
	case api.StIf:
		w.behind(x.E, "if")
	case api.StWhile:
		w.behind(x.E, "while")
	case api.StFor:
		w.say("for")
		w.names(x.Names)
		w.say("in")
		w.innerQuery(x.Q[0])
	case api.StTry:
		w.say("try")
	}
}

// second writes the second block of a statement: a catch always, an else if there is anything in it.
func (w *writer) second(x api.Stmt) {
	word := "else"
	switch {
	case x.Kind == api.StTry:
		word = "catch"
		fallthrough
	case len(x.Else) > 0:
		w.sayLine("}", word, "{")
		w.block(x.Else)
	}
}

// plain writes a statement without blocks, up to its end.
func (w *writer) plain(x api.Stmt) {
	switch x.Kind {
	case api.StSet:
		w.say("set")
		w.assigned(x)
	case api.StInput:
		w.say("input")
		w.names(x.Names)
	case api.StPrint:
		w.behind(x.E, "print", x.Table)
	case api.StInsert:
		w.say("insert", "into", x.Table, "values")
		w.inBrackets(func() { list(w, x.E, w.inner) })
	case api.StInsertQ:
		w.say("insert", "into", x.Table)
		w.innerQuery(x.Q[0])
	case api.StUpdate:
		w.say("update", x.Table, "set")
		w.assigned(x)
		w.behind(x.Where, "where")
	case api.StDelete:
		w.say("delete", "from", x.Table)
		w.behind(x.Where, "where")
	case api.StCall:
		w.say("call")
		w.called(x.Table, func() { list(w, x.E, w.inner) })
	default:
		w.say(lone(x.Kind))
	}
}

// assigned writes names and what each of them becomes.
func (w *writer) assigned(x api.Stmt) {
	for i, name := range x.Names {
		if i > 0 {
			w.say(",")
		}
		w.say(name, "=")
		w.inner(x.E[i])
	}
}

// lone is the word of a statement that has nothing else.
func lone(kind int) string {
	switch kind {
	case api.StRaise:
		return "raise"
	case api.StBegin:
		return "begin"
	case api.StCommit:
		return "commit"
	case api.StRollback:
		return "rollback"
	}
	return "skip"
}
