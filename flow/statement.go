package flow

import "cordon/api"

// block is what the statements of a block raise, which stand one behind the other, at first at a level. What one raises is in where those behind it stand, so the last that can raise something raises at the levels of all.
func (w *work) block(level int, body []api.Op) raising {
	out := w.nothing()
	for _, op := range body {
		if r := w.statement(level, op); r.can {
			level = w.together(level, r.level)
			out = w.raises(true, level)
		}
	}
	return out
}

// statement is what a statement raises that stands at a level; that level itself is put to it by its block. An input is set to a variable, without an expression, so it falls through.
func (w *work) statement(level int, op api.Op) raising {
	switch op.Kind {
	case api.StFor:
		return w.each(level, op)
	case api.StTry:
		body := w.block(level, op.Body)
		return w.block(w.together(level, body.level), op.Else)
	case api.StRaise:
		return w.raises(true, level)
	case api.StBegin, api.StCommit, api.StRollback:
		w.flow(op, api.WhySaved, w.saved, level)
		return w.nothing()
	case api.StInsert, api.StInsertQ, api.StUpdate, api.StDelete:
		return w.change(level, op)
	}
	marks := w.marks(nil, op.E)
	m := w.all(marks)
	own := w.raises(m.Can, m.Raise)
	switch op.Kind {
	case api.StInput:
		w.flow(op, api.WhyInput, w.levels.Bottom(), level)
		fallthrough
	case api.StSet:
		w.give(at(op.Names, 0, ""), level, m.Value, m.Raise)
	case api.StPrint:
		w.flow(op, api.WhyPrint, at(w.channels, op.N, api.Named{Level: none}).Level, level, m.Value, m.Raise)
	case api.StIf:
		level = w.together(level, m.Value, m.Raise)
		body := w.block(level, op.Body)
		return w.any(own, body, w.block(level, op.Else))
	case api.StWhile:
		return w.while(level, op, m)
	case api.StCall:
		return w.any(own, w.call(w.together(level, m.Raise), op, marks))
	}
	return own
}

// enter is the number of a loop, and the level where its block stands: as it is done again and again, at the level at which it is known to raise something, too.
func (w *work) enter(levels ...int) (int, int) {
	n := w.loop
	w.loop++
	if n == len(w.blocks) {
		w.blocks = append(w.blocks, w.together())
	}
	return n, w.together(w.blocks[n], w.together(levels...))
}

// turns is what the block of a loop raises.
func (w *work) turns(n, level int, body []api.Op) raising {
	out := w.block(level, body)
	w.grow(&w.blocks[n], out.level)
	return out
}

// while asks its expression behind each turn, so that this raises something where the block stands.
func (w *work) while(level int, op api.Op, m api.Mark) raising {
	n, level := w.enter(level, m.Value, m.Raise)
	w.endless = w.together(w.endless, level)
	return w.any(w.raises(m.Can, m.Raise, level), w.turns(n, level, op.Body))
}

func (w *work) each(level int, op api.Op) raising {
	s := w.sheet(op)
	n, level := w.enter(level, s.Rows, s.Raise)
	for i, name := range op.Names {
		w.give(name, level, at(s.Cols, i, level))
	}
	return w.any(w.raises(s.Can, s.Raise), w.turns(n, level, op.Body))
}

// call is what a procedure raises that is called at a level.
func (w *work) call(level int, op api.Op, marks []api.Mark) raising {
	if op.N < 0 || op.N >= len(w.procs) {
		return w.nothing()
	}
	p := &w.procs[op.N]
	w.grow(&p.entry, level)
	for i := range p.Params {
		w.grow(&p.vars[i].Level, level, at(marks, i, api.Mark{Value: level}).Value)
	}
	if p.round {
		w.endless = w.together(w.endless, level)
	}
	return p.raises
}
