package labels

import (
	"slices"

	"cordon/api"
)

// plan is a query's sheet, from within: those of its kids first.
func (w *work) plan(p api.Plan) api.Sheet {
	kids := [2]api.Sheet{w.empty(), w.empty()}
	for i := range min(len(p.Kids), len(kids)) {
		kids[i] = w.plan(p.Kids[i])
	}
	return w.told(p, kids)
}

// empty is the sheet of one row without columns, and of a kid that is not there.
func (w *work) empty() api.Sheet { return api.Sheet{Rows: w.together(), Raise: w.together()} }

// told is the sheet of a plan whose kids' sheets are there. A join selects among the pairs of its rows, and a union is distinct of both together: so these fall through. Of a limit, and of a kind that there is none of, it is the first kid's.
func (w *work) told(p api.Plan, kids [2]api.Sheet) api.Sheet {
	out := kids[0]
	switch p.Kind {
	case api.PlOne:
		return w.empty()
	case api.PlScan, api.PlVisible:
		return w.taken(p)
	case api.PlJoin, api.PlLeft:
		out = w.both(kids)
		out.Cols = append(out.Cols, kids[1].Cols...)
		fallthrough
	case api.PlSelect, api.PlOrder:
		return w.arranged(out, w.nodes(out.Cols, p.E))
	case api.PlProject:
		return w.projected(out, w.nodes(out.Cols, p.E))
	case api.PlGroup:
		return w.grouped(p, out)
	case api.PlUnionAll:
		return w.paired(kids)
	case api.PlUnion:
		out = w.paired(kids)
		fallthrough
	case api.PlDistinct:
		out.Rows = w.together(out.Rows, w.together(out.Cols...))
	case api.PlExcept, api.PlIntersect:
		out = w.both(kids)
		out.Rows = w.together(out.Rows, w.together(kids[0].Cols...), w.together(kids[1].Cols...))
	}
	return out
}

// taken is the sheet of a table's rows, all of them or the visible ones. A table that is not there has no rows (13).
func (w *work) taken(p api.Plan) api.Sheet {
	out := w.empty()
	r, ok := w.table(p.N)
	if !ok {
		return out
	}
	out.Rows = w.together(r.Rows)
	if p.Kind == api.PlScan {
		out.Rows = w.exists(r)
	}
	out.Cols = w.columns(r)
	return out
}

// both is a sheet of two: the rows of both, and what either can raise. Its columns are the first one's, cloned, as they are changed, or others are put behind them.
func (w *work) both(kids [2]api.Sheet) api.Sheet {
	out := w.empty()
	for _, kid := range kids {
		out.Rows = w.together(out.Rows, kid.Rows)
		if kid.Can {
			out = w.raised(out, kid.Raise)
		}
	}
	out.Cols = slices.Clone(kids[0].Cols)
	return out
}

// raised is a sheet of what can raise something, at these levels, too.
func (w *work) raised(s api.Sheet, levels ...int) api.Sheet {
	s.Can = true
	s.Raise = w.together(s.Raise, w.together(levels...))
	return s
}

// rowByRow is the sheet of a part of whose rows something is done: how many rows there are says how often.
func (w *work) rowByRow(part api.Sheet, done ...api.Mark) api.Sheet {
	if m := w.all(done...); m.Can {
		return w.raised(part, m.Raise, part.Rows)
	}
	return part
}

// arranged is the sheet of rows of which nodes say which stay, or where they stand.
func (w *work) arranged(part api.Sheet, done []api.Mark) api.Sheet {
	out := w.rowByRow(part, done...)
	out.Rows = w.together(part.Rows, w.all(done...).Value)
	return out
}

func (w *work) projected(part api.Sheet, done []api.Mark) api.Sheet {
	out := w.rowByRow(part, done...)
	out.Cols = values(done)
	return out
}

func values(marks []api.Mark) []int {
	out := make([]int, len(marks))
	for i, m := range marks {
		out[i] = m.Value
	}
	return out
}

// paired is the sheet of the rows of both, whose columns are one by one of either.
func (w *work) paired(kids [2]api.Sheet) api.Sheet {
	out := w.both(kids)
	for i := range out.Cols {
		out.Cols[i] = w.together(out.Cols[i], w.at(kids[1].Cols, i))
	}
	return out
}

// grouped is the sheet of groups. Rows by no key are always one group; so what is gathered of them tells which rows there are, where else that there is the group does.
func (w *work) grouped(p api.Plan, part api.Sheet) api.Sheet {
	by := make([]int, len(p.Keys))
	for i, place := range p.Keys {
		by[i] = w.at(part.Cols, place)
	}
	done := make([]api.Mark, len(p.Aggs))
	for i, g := range p.Aggs {
		done[i] = w.gathered(part, g, by)
	}
	out := w.projected(part, done)
	if len(by) > 0 {
		out.Rows = w.together(part.Rows, w.together(by...))
		out.Cols = append(by, out.Cols...)
		return out
	}
	out.Rows = w.together()
	for i := range out.Cols {
		out.Cols[i] = w.together(out.Cols[i], part.Rows)
	}
	return out
}

// gathered is the mark of what is gathered of each row. A sum may be too great, which hangs on what is summed up, and on which rows are one group.
func (w *work) gathered(part api.Sheet, g api.Gather, by []int) api.Mark {
	out := w.all(w.nodes(part.Cols, g.E)...)
	if g.Fn == "sum" {
		out = w.raising(out, out.Value, w.together(by...))
	}
	return out
}
