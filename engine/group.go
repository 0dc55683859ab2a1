package engine

import (
	"cordon/api"
	"cordon/rows"
)

// grouped are the keys of each group, and what is gathered of its rows.
func (w work) grouped(p api.Plan, l []rows.Row) ([]rows.Row, api.Errno) {
	gathered, err := w.told(gatherings(p.Aggs), l)
	if err != api.OK {
		return nil, err
	}
	keys := picked(l, p.Keys)
	groups := rows.Groups(keys)
	if len(p.Keys) == 0 && len(l) == 0 { // rows by no key are one group, also if there are none
		groups = [][]int{nil}
	}
	var out []rows.Row
	for _, places := range groups {
		var row rows.Row
		if len(places) > 0 {
			row = keys[places[0]]
		}
		for i, g := range p.Aggs {
			v, err := rows.Fold(g.Fn, column(gathered, places, i))
			if err != api.OK {
				return nil, err
			}
			row = append(row, v)
		}
		out = append(out, row)
	}
	return out, api.OK
}

// gatherings are what is gathered of each row; where it is rows themselves, they count as true.
func gatherings(l []api.Gather) []term {
	var out []term
	for _, g := range l {
		t := term{kind: api.ExBool, n: 1}
		if len(g.E) > 0 {
			t = ready(g.E[0])
		}
		out = append(out, t)
	}
	return out
}

// picked are rows of some values of each row.
func picked(l []rows.Row, places []int) []rows.Row {
	out := make([]rows.Row, len(l))
	for i, row := range l {
		for _, place := range places {
			out[i] = append(out[i], valueAt(row, place))
		}
	}
	return out
}

// column is one value of each of some rows.
func column(l []rows.Row, places []int, at int) []api.Value {
	out := make([]api.Value, len(places))
	for i, place := range places {
		out[i] = l[place][at]
	}
	return out
}
