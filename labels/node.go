package labels

import "cordon/api"

// node is an expression's mark, over columns with levels.
func (w *work) node(cols []int, n api.Node) api.Mark {
	switch n.Kind {
	case api.ExNull, api.ExBool, api.ExInt, api.ExText:
		return w.still(w.together())
	case api.ExCol:
		return w.still(w.at(cols, n.N))
	case api.ExVar:
		return w.still(w.variable(n.S))
	}
	return w.reckoned(n, w.nodes(cols, n.Kids))
}

func (w *work) nodes(cols []int, l []api.Node) []api.Mark {
	out := make([]api.Mark, len(l))
	for i, n := range l {
		out[i] = w.node(cols, n)
	}
	return out
}

// still is the mark of what can raise nothing.
func (w *work) still(level int) api.Mark { return api.Mark{Value: level, Raise: w.together()} }

// reckoned is the mark of what is made of kids and queries: a mark of all of them, and then what it raises itself. Operators that reckon raise as neg does, so they fall through to it.
func (w *work) reckoned(n api.Node, kids []api.Mark) api.Mark {
	out := w.all(kids...)
	for _, p := range n.Plans {
		out = w.all(out, w.asked(n.Kind, w.plan(p)))
	}
	switch n.Kind {
	case api.ExBin:
		if !reckons(n.S) {
			break
		}
		fallthrough
	case api.ExNeg:
		out = w.raising(out, out.Value)
	case api.ExCase:
		if len(kids) > 0 && w.all(kids[1:]...).Can { // the first kid says whether they are done
			out = w.raising(out, kids[0].Value)
		}
	}
	return out
}

// all is the mark of what hangs on all of these.
func (w *work) all(marks ...api.Mark) api.Mark {
	out := w.still(w.together())
	for _, m := range marks {
		out.Value = w.together(out.Value, m.Value)
		if m.Can {
			out = w.raising(out, m.Raise)
		}
	}
	return out
}

// raising is a mark of what can raise something, at these levels, too.
func (w *work) raising(m api.Mark, levels ...int) api.Mark {
	m.Can = true
	m.Raise = w.together(m.Raise, w.together(levels...))
	return m
}

// asked is the mark of what is asked of a query: is there a row, is a value in it, or which value is it. Each asks what the next one asks, and more, so they fall through.
func (w *work) asked(kind int, q api.Sheet) api.Mark {
	out := api.Mark{Value: w.together(), Raise: q.Raise, Can: q.Can}
	switch kind {
	case api.ExScalar:
		out = w.raising(out, q.Rows) // as there may be more than one
		fallthrough
	case api.ExIn:
		out.Value = w.at(q.Cols, 0)
		fallthrough
	case api.ExExists:
		out.Value = w.together(out.Value, q.Rows)
	}
	return out
}

// reckons tells whether what a mark comes to may be too great, or too long, or divided by zero.
func reckons(mark string) bool {
	switch mark {
	case "+", "-", "*", "/", "%", "||":
		return true
	}
	return false
}
