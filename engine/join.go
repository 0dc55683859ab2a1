package engine

import (
	"cordon/api"
	"cordon/rows"
	"cordon/value"
)

// joined are pairs of rows of which the plan's node is true; a row of the first list without any stands with those of none. How many rows there are is asked when all pairs have been looked at, as an error of one of them comes first.
func (w work) joined(p api.Plan, kids [2][]rows.Row, none []rows.Row) ([]rows.Row, api.Errno) {
	if len(kids[0])*len(kids[1]) > api.MaxPairs {
		return nil, api.ErrRows
	}
	on := readyFirst(p.E)
	var out []rows.Row
	for _, row := range kids[0] {
		found, err := w.matched(on, row, kids[1])
		if err != api.OK {
			return nil, err
		}
		if len(found) == 0 {
			found = pairs(row, none)
		}
		out = append(out, found...)
	}
	if len(out) > api.MaxResult {
		return nil, api.ErrRows
	}
	return out, api.OK
}

// matched are the pairs of a row with some of a list for which a term is true.
func (w work) matched(on term, row rows.Row, l []rows.Row) ([]rows.Row, api.Errno) {
	var out []rows.Row
	for _, both := range pairs(row, l) {
		is, err := w.value(on, both)
		if err != api.OK {
			return nil, err
		}
		if value.True(is) {
			out = append(out, both)
		}
	}
	return out, api.OK
}

// pairs are a row with each of a list behind it. The row is cut to its length, so that each pair gets memory of its own.
func pairs(row rows.Row, l []rows.Row) []rows.Row {
	out := make([]rows.Row, len(l))
	for i, second := range l {
		out[i] = append(row[:len(row):len(row)], second...)
	}
	return out
}

// nulls stand where the second kid of a left join has no row. A plan that no query has may tell any width: what is not right is cut to what may be.
func nulls(p api.Plan) rows.Row {
	if len(p.Kids) < 2 {
		return nil
	}
	return make(rows.Row, max(0, min(p.Kids[1].Width, api.MaxCols)))
}
