package derive

import (
	"cordon/api"
	"cordon/flow"
)

// change looks at a statement that writes to a table, from a level, and is what it raises.
func (v *verifier) change(level int, op api.Op) raising {
	t := at(v.tables, op.N, table{rows: none, exists: v.together()})
	switch op.Kind {
	case api.StInsert:
		return v.insert(level, op, t, v.row(op), v.mayBeNull(api.Plan{Kind: api.PlOne}, op.E))
	case api.StInsertQ:
		var may []bool
		if len(op.Plan) > 0 {
			may = flow.Nulls(v.catalog, op.Plan[0])
		}
		return v.insert(level, op, t, v.sheet(op), may)
	case api.StUpdate:
		return v.update(level, op, t)
	}
	return v.delete(level, op, t)
}

// mayBeNull tells which of some expressions may be null, over the columns of a plan: layer 18 tells that of plans, so they are put into one.
func (v *verifier) mayBeNull(over api.Plan, l []api.Node) []bool {
	return flow.Nulls(v.catalog, api.Plan{Kind: api.PlProject, Kids: []api.Plan{over}, E: l})
}

// refuses tells whether there is a column that may not be null.
func (t table) refuses(place int) bool { return !at(t.nulls, place, true) }

// row is the sheet of a row of expressions: that there is one tells nothing.
func (v *verifier) row(op api.Op) api.Sheet {
	marks := v.marks(nil, op.E)
	m := v.all(marks)
	out := api.Sheet{Rows: v.together(), Raise: m.Raise, Can: m.Can}
	for _, m := range marks {
		out.Cols = append(out.Cols, m.Value)
	}
	return out
}

// insert looks at rows that are added, of which a sheet is known, and which columns may be null. A row that collides with a hidden one is hidden itself, so that of one row alone nothing else is told by whether it was added; but of several rows none is added, if one collides.
func (v *verifier) insert(level int, op api.Op, t table, s api.Sheet, may []bool) raising {
	own := v.some(s.Can, s.Rows, s.Raise)
	for i, col := range s.Cols {
		own = v.any(own, v.some(t.refuses(i) && at(may, i, true), s.Rows, col))
	}
	collides := v.some(len(t.key) > 0, t.exists, s.Rows)
	for _, place := range t.key {
		collides = v.any(collides, v.some(true, at(s.Cols, place, s.Rows)))
	}
	out := v.any(own, collides)
	if op.Kind == api.StInsertQ {
		own = out
	}
	v.below(t.rows, level, s.Rows, own.level)
	for i, col := range s.Cols {
		v.below(at(t.cols, i, none), col)
	}
	return out
}

// update looks at columns that are changed. What it raises leaves all of them as they were, so it flows to each.
func (v *verifier) update(level int, op api.Op, t table) raising {
	where, marks := v.all(v.marks(t.cols, op.Where)), v.marks(t.cols, op.E)
	may := v.mayBeNull(api.Plan{Kind: api.PlScan, N: op.N}, op.E)
	out := v.some(where.Can, where.Raise, t.exists)
	for i, m := range marks {
		refused := t.refuses(at(op.Cols, i, none)) && at(may, i, true)
		out = v.any(out, v.some(m.Can || refused, m.Raise, m.Value, where.Value, t.exists))
	}
	for i, place := range op.Cols {
		m := at(marks, i, api.Mark{Value: level})
		v.below(at(t.cols, place, none), level, where.Value, m.Value, out.level)
	}
	return out
}

func (v *verifier) delete(level int, op api.Op, t table) raising {
	where := v.all(v.marks(t.cols, op.Where))
	out := v.some(where.Can, where.Raise, t.exists)
	v.below(t.rows, level, where.Value, out.level)
	return out
}
