package flow

import (
	"slices"

	"cordon/api"
)

// nulls tells what may be null, over some tables.
type nulls struct{ tables []api.Relation }

// at is a member of a list, or, where there is none, another thing.
func at[T any](l []T, place int, other T) T {
	if place < 0 || place >= len(l) {
		return other
	}
	return l[place]
}

// node tells whether an expression may be null, over columns of which it is known. What is not there is null (13).
func (n nulls) node(cols []bool, x api.Node) bool {
	kid := func(place int) bool {
		return place >= len(x.Kids) || n.node(cols, x.Kids[place])
	}
	switch x.Kind {
	case api.ExBool, api.ExInt, api.ExText, api.ExIs, api.ExExists:
		return false
	case api.ExCol:
		return at(cols, x.N, true)
	case api.ExCase:
		return kid(1) || kid(2)
	case api.ExBin:
		return kid(0) || kid(1)
	case api.ExIn:
		if at(n.query(x.Plans), 0, true) {
			return true
		}
		fallthrough
	case api.ExNeg, api.ExNot:
		return kid(0)
	}
	return true
}

func (n nulls) nodes(cols []bool, l []api.Node) []bool {
	out := make([]bool, len(l))
	for i, x := range l {
		out[i] = n.node(cols, x)
	}
	return out
}

// query is a plan, of a list that has one at the most.
func (n nulls) query(l []api.Plan) []bool {
	if len(l) == 0 {
		return nil
	}
	return n.plan(l[0])
}

// plan tells which columns of a plan may be null. A left join is a join whose second one may be null at all places, so it falls through. What is told of a kid is nobody else's, and may be changed.
func (n nulls) plan(p api.Plan) []bool {
	var kids [2][]bool
	for i := range min(len(p.Kids), len(kids)) {
		kids[i] = n.plan(p.Kids[i])
	}
	out := kids[0]
	switch p.Kind {
	case api.PlOne:
		return nil
	case api.PlScan, api.PlVisible:
		return columnNulls(at(n.tables, p.N, api.Relation{}))
	case api.PlProject:
		return n.nodes(out, p.E)
	case api.PlGroup:
		return grouped(p, out)
	case api.PlLeft:
		for i := range kids[1] {
			kids[1][i] = true
		}
		fallthrough
	case api.PlJoin:
		return append(slices.Clone(out), kids[1]...)
	case api.PlUnion, api.PlUnionAll:
		for i := range out {
			out[i] = out[i] || at(kids[1], i, true)
		}
	}
	return out
}

func columnNulls(r api.Relation) []bool {
	out := make([]bool, len(r.Cols))
	for i, f := range r.Cols {
		out[i] = f.Null
	}
	return out
}

// grouped tells of keys what is known of them; a count is a number of rows, also of none, and all else that is gathered of none is null.
func grouped(p api.Plan, part []bool) []bool {
	var out []bool
	for _, place := range p.Keys {
		out = append(out, at(part, place, true))
	}
	for _, g := range p.Aggs {
		out = append(out, g.Fn != "count")
	}
	return out
}
