package engine

import (
	"cordon/api"
	"cordon/rows"
	"cordon/value"
)

// rows are what a plan comes to, its kids' rows ahead of its own.
func (w work) rows(p api.Plan) ([]rows.Row, api.Errno) {
	var kids [2][]rows.Row
	for i := range min(len(p.Kids), len(kids)) {
		l, err := w.rows(p.Kids[i])
		if err != api.OK {
			return nil, err
		}
		kids[i] = l
	}
	return w.done(p, kids)
}

// done is what a plan comes to whose kids' rows are there. A left join is a join that has nulls, too, and a union is distinct of both together: so these fall through.
func (w work) done(p api.Plan, kids [2][]rows.Row) ([]rows.Row, api.Errno) {
	var none []rows.Row
	switch p.Kind {
	case api.PlOne:
		return []rows.Row{{}}, api.OK
	case api.PlScan:
		return w.db.Rows(p.N), api.OK
	case api.PlVisible:
		return w.db.Visible(p.N), api.OK
	case api.PlSelect:
		return w.selected(p, kids[0])
	case api.PlProject:
		return w.told(readyAll(p.E), kids[0])
	case api.PlLeft:
		none = []rows.Row{nulls(p)}
		fallthrough
	case api.PlJoin:
		return w.joined(p, kids, none)
	case api.PlGroup:
		return w.grouped(p, kids[0])
	case api.PlUnion:
		both, err := together(kids)
		if err != api.OK {
			return nil, err
		}
		kids[0] = both
		fallthrough
	case api.PlDistinct:
		return rows.Distinct(kids[0]), api.OK
	case api.PlOrder:
		return w.ordered(p, kids[0])
	case api.PlLimit:
		return kids[0][:max(0, min(p.N, len(kids[0])))], api.OK
	case api.PlUnionAll:
		return together(kids)
	case api.PlExcept:
		return rows.Except(kids[0], kids[1]), api.OK
	case api.PlIntersect:
		return rows.Intersect(kids[0], kids[1]), api.OK
	}
	return nil, api.ErrArg
}

// selected are the rows for which the plan's node is true.
func (w work) selected(p api.Plan, l []rows.Row) ([]rows.Row, api.Errno) {
	is := readyFirst(p.E)
	var out []rows.Row
	for _, row := range l {
		v, err := w.value(is, row)
		if err != api.OK {
			return nil, err
		}
		if value.True(v) {
			out = append(out, row)
		}
	}
	return out, api.OK
}

// told are rows of what terms come to, of each row.
func (w work) told(terms []term, l []rows.Row) ([]rows.Row, api.Errno) {
	out := make([]rows.Row, len(l))
	for i, row := range l {
		out[i] = make(rows.Row, len(terms))
		for j, t := range terms {
			v, err := w.value(t, row)
			if err != api.OK {
				return nil, err
			}
			out[i][j] = v
		}
	}
	return out, api.OK
}

func (w work) ordered(p api.Plan, l []rows.Row) ([]rows.Row, api.Errno) {
	keys, err := w.told(readyAll(p.E), l)
	if err != api.OK {
		return nil, err
	}
	return rows.Sort(l, keys, p.Desc), api.OK
}

// together are the rows of both. The first list is cut to its length, so that nothing is put where another list may have its rows.
func together(kids [2][]rows.Row) ([]rows.Row, api.Errno) {
	first, second := kids[0], kids[1]
	if len(first)+len(second) > api.MaxResult {
		return nil, api.ErrRows
	}
	return append(first[:len(first):len(first)], second...), api.OK
}
