package unparse

import (
	"strconv"
	"strings"

	"cordon/api"
)

// inner writes an expression that stands in something else.
func (w *writer) inner(x api.Expr) {
	w.deeper(func() { w.expr(x) })
}

func (w *writer) expr(x api.Expr) {
	switch x.Kind {
	case api.ExNull:
		w.say("null")
	case api.ExBool:
		w.say(strconv.FormatBool(x.N == 1))
	case api.ExInt:
		w.say(strconv.Itoa(x.N))
	case api.ExText:
		w.say("'" + strings.ReplaceAll(x.S, "'", "''") + "'")
	case api.ExVar:
		w.say(":")
		fallthrough
	case api.ExCol:
		w.column(x)
	case api.ExAgg:
		w.called(x.S, func() { w.gathered(x.Kids) })
	case api.ExCase:
		w.choice(x.Kids)
	case api.ExExists:
		w.say("exists")
		fallthrough
	case api.ExScalar:
		w.queryInBrackets(x.Q[0])
	default:
		w.compound(x)
	}
}

// compound writes what has operands.
func (w *writer) compound(x api.Expr) {
	switch x.Kind {
	case api.ExNeg:
		w.say("-")
		w.tie()
		w.deeper(func() { w.operand(x.Kids[0]) })
	case api.ExNot:
		w.say("not")
		w.deeper(func() { w.operand(x.Kids[0]) })
	case api.ExIs:
		w.operand(x.Kids[0])
		w.say("is")
		w.turned(x.N)
		w.say("null")
	case api.ExIn:
		w.operand(x.Kids[0])
		w.turned(x.N)
		w.say("in")
		w.queryInBrackets(x.Q[0])
	case api.ExBin:
		w.operand(x.Kids[0])
		w.say(x.S)
		w.operand(x.Kids[1])
	}
}

// operand writes brackets by the kind alone, not by what binds how strongly.
func (w *writer) operand(x api.Expr) {
	switch x.Kind {
	case api.ExBin, api.ExNeg, api.ExNot, api.ExIs, api.ExIn:
		w.inBrackets(func() { w.inner(x) })
	default:
		w.expr(x)
	}
}

func (w *writer) turned(n int) {
	if n == 1 {
		w.say("not")
	}
}

func (w *writer) column(x api.Expr) {
	if x.T != "" {
		w.say(x.T, ".")
	}
	w.say(x.S)
}

func (w *writer) gathered(kids []api.Expr) {
	if len(kids) == 0 {
		w.say("*")
		return
	}
	w.inner(kids[0])
}

func (w *writer) choice(kids []api.Expr) {
	w.say("case")
	for i, word := range [3]string{"when", "then", "else"} {
		w.say(word)
		w.inner(kids[i])
	}
	w.say("end")
}
