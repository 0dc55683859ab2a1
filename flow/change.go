package flow

import "cordon/api"

// change is what a statement raises that writes to a table.
func (w *work) change(level int, op api.Op) raising {
	t := at(w.tables, op.N, table{rows: none, exists: w.together()})
	switch op.Kind {
	case api.StInsert:
		return w.insert(level, op, t, w.row(op), w.nulls.nodes(nil, op.E))
	case api.StInsertQ:
		return w.insert(level, op, t, w.sheet(op), w.nulls.query(op.Plan))
	case api.StUpdate:
		return w.update(level, op, t)
	}
	return w.delete(level, op, t)
}

// refuses tells whether there is a column that may not be null.
func (t table) refuses(place int) bool { return !at(t.nulls, place, true) }

// row is the sheet of a row of expressions: that there is one tells nothing.
func (w *work) row(op api.Op) api.Sheet {
	marks := w.marks(nil, op.E)
	m := w.all(marks)
	out := api.Sheet{Rows: w.together(), Raise: m.Raise, Can: m.Can}
	for _, m := range marks {
		out.Cols = append(out.Cols, m.Value)
	}
	return out
}

// insert adds rows of which a sheet is known, and which columns may be null. A row that collides with one of a table's hidden rows is hidden itself, so that of one row alone nothing else is told by whether it was added; but of several rows none is added, if one collides.
func (w *work) insert(level int, op api.Op, t table, s api.Sheet, may []bool) raising {
	own := w.raises(s.Can, s.Rows, s.Raise)
	for i, col := range s.Cols {
		own = w.any(own, w.raises(t.refuses(i) && at(may, i, true), s.Rows, col))
	}
	collides := w.raises(len(t.key) > 0, t.exists, s.Rows)
	for _, place := range t.key {
		collides = w.any(collides, w.raises(true, at(s.Cols, place, s.Rows)))
	}
	all := w.any(own, collides)
	if op.Kind == api.StInsertQ {
		own = all
	}
	w.flow(op, api.WhyRows, t.rows, level, s.Rows, own.level)
	for i, col := range s.Cols {
		w.flow(op, api.WhyColumn, at(t.cols, i, none), col)
	}
	return all
}

// update changes columns of the rows that are meant. Which these are, hidden ones among them, says whether something is raised, and what is raised leaves all columns as they were.
func (w *work) update(level int, op api.Op, t table) raising {
	where, marks := w.all(w.marks(t.cols, op.Where)), w.marks(t.cols, op.E)
	own := w.raises(where.Can, where.Raise, t.exists)
	for i, m := range marks {
		refused := t.refuses(at(op.Cols, i, none)) && w.nulls.node(t.nulls, op.E[i])
		own = w.any(own, w.raises(m.Can || refused, m.Raise, m.Value, where.Value, t.exists))
	}
	for i, place := range op.Cols {
		m := at(marks, i, api.Mark{Value: level})
		w.flow(op, api.WhyColumn, at(t.cols, place, none), level, where.Value, m.Value, own.level)
	}
	return own
}

func (w *work) delete(level int, op api.Op, t table) raising {
	where := w.all(w.marks(t.cols, op.Where))
	own := w.raises(where.Can, where.Raise, t.exists)
	w.flow(op, api.WhyRows, t.rows, level, where.Value, own.level)
	return own
}
