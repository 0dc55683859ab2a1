package derive

import (
	"slices"

	"cordon/api"
	"cordon/labels"
)

// statement looks at what is said of a statement with a rule, and at its blocks, and is what it raises; where it stands is put to that by its block.
func (v *verifier) statement(op api.Op, r api.Rule) raising {
	switch op.Kind {
	case api.StFor:
		return v.each(op, r)
	case api.StTry:
		v.statements(r.Pc, op.Body, r.Body)
		v.statements(v.together(r.Pc, v.raised(r.Body).level), op.Else, r.Else)
		return v.raised(r.Else)
	case api.StRaise:
		return v.some(true)
	case api.StBegin, api.StCommit, api.StRollback:
		v.saved(r.Pc)
		return v.nothing()
	case api.StInsert, api.StInsertQ, api.StUpdate, api.StDelete:
		return v.change(r.Pc, op)
	}
	return v.reckoned(op, r, v.marks(nil, op.E))
}

// reckoned looks at a statement whose expressions have marks. An input sets a variable, too, without an expression, so it falls through.
func (v *verifier) reckoned(op api.Op, r api.Rule, marks []api.Mark) raising {
	m := v.all(marks)
	own := v.some(m.Can, m.Raise)
	switch op.Kind {
	case api.StInput:
		v.below(v.levels.Bottom(), r.Pc)
		fallthrough
	case api.StSet:
		v.given(at(op.Names, 0, ""), r.Pc, m.Value, m.Raise)
	case api.StPrint:
		v.below(at(v.channels, op.N, api.Named{Level: none}).Level, r.Pc, m.Value, m.Raise)
	case api.StIf:
		level := v.together(r.Pc, m.Value, m.Raise)
		v.statements(level, op.Body, r.Body)
		v.statements(level, op.Else, r.Else)
		return v.any(own, v.raised(r.Body), v.raised(r.Else))
	case api.StWhile: // its expression is asked behind each turn, so that this raises something where the block stands
		level := v.together(r.Pc, m.Value, m.Raise, v.raised(r.Body).level)
		v.statements(level, op.Body, r.Body)
		return v.any(v.some(m.Can, m.Raise, level), v.raised(r.Body))
	case api.StCall:
		return v.any(own, v.called(v.together(r.Pc, m.Raise), op, marks))
	}
	return own
}

// each looks at a for: its block is done again and again, so it stands at the level at which it raises something, too.
func (v *verifier) each(op api.Op, r api.Rule) raising {
	s := v.sheet(op)
	level := v.together(r.Pc, s.Rows, s.Raise, v.raised(r.Body).level)
	for i, name := range op.Names {
		v.given(name, level, at(s.Cols, i, level))
	}
	v.statements(level, op.Body, r.Body)
	return v.any(v.some(s.Can, s.Raise), v.raised(r.Body))
}

// called looks at a call from a level, and is what the procedure raises.
func (v *verifier) called(level int, op api.Op, marks []api.Mark) raising {
	if op.N < 0 || op.N >= len(v.codes) {
		return v.nothing()
	}
	v.below(v.proof.Entry[op.N], level)
	for i := range v.codes[op.N].Params {
		v.below(v.proof.Vars[op.N][i], level, at(marks, i, api.Mark{Value: level}).Value)
	}
	return v.some(v.proof.Can[op.N], v.proof.Raise[op.N])
}

// saved looks at what saves all tables, or takes them back.
func (v *verifier) saved(level int) {
	for _, t := range v.tables {
		v.below(t.rows, level)
		for _, col := range t.cols {
			v.below(col, level)
		}
	}
}

// given looks at levels that go into a variable's: the first one of its name, as that is the one that is looked up (17).
func (v *verifier) given(name string, levels ...int) {
	place := slices.IndexFunc(v.vars, func(x api.Named) bool { return x.Name == name })
	if place >= 0 {
		v.below(v.vars[place].Level, levels...)
	}
}

// marks are those of expressions, over columns with levels.
func (v *verifier) marks(cols []int, l []api.Node) []api.Mark {
	var out []api.Mark
	for _, n := range l {
		out = append(out, labels.Node(v.catalog, v.vars, cols, n))
	}
	return out
}

// all is the mark of what hangs on all of these.
func (v *verifier) all(marks []api.Mark) api.Mark {
	out := api.Mark{Value: v.together(), Raise: v.together()}
	for _, m := range marks {
		out = api.Mark{Value: v.together(out.Value, m.Value), Raise: v.together(out.Raise, m.Raise), Can: out.Can || m.Can}
	}
	return out
}

// sheet is that of a statement's query.
func (v *verifier) sheet(op api.Op) api.Sheet {
	if len(op.Plan) == 0 {
		return api.Sheet{Rows: v.together(), Raise: v.together()}
	}
	return labels.Plan(v.catalog, v.vars, op.Plan[0])
}
