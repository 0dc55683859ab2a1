package change

import (
	"cordon/api"
	"cordon/engine"
	"cordon/store"
	"cordon/value"
)

// edit is what is done to those rows of a table that are meant: each tells the rows that come in the place of one, by what the nodes come to of it.
type edit struct {
	where []api.Node
	nodes []api.Node
	each  func(row, values []api.Value) [][]api.Value
}

// done does it to all rows at once, and tells how many were meant.
func (e edit) done(d *store.DB, vars []api.Bound, t int) (int, api.Errno) {
	answers, err := engine.Rows(d, vars, asked(api.Plan{Kind: api.PlScan, N: t}, e.questions()))
	if err != api.OK {
		return 0, err
	}
	meant := 0
	var out [][]api.Value
	for i, row := range d.Rows(t) {
		if !value.True(answers[i][0]) {
			out = append(out, row)
			continue
		}
		meant++
		out = append(out, e.each(row, answers[i][1:])...)
	}
	if err := d.Put(t, out); err != api.OK {
		return 0, err
	}
	return meant, api.OK
}

// questions are where, and then the nodes, each if where is true: so the first error is told row by row, and none of a row that is not meant. They are asked of all rows in one call of the engine, as that does a query in a node just once, and not anew for each row.
func (e edit) questions() []api.Node {
	where := api.Node{Kind: api.ExBool, N: 1}
	if len(e.where) > 0 {
		where = e.where[0]
	}
	out := []api.Node{where}
	for _, n := range e.nodes {
		out = append(out, api.Node{Kind: api.ExCase, Kids: []api.Node{where, n, {Kind: api.ExNull}}})
	}
	return out
}

// asked is the plan of what nodes come to, from the left, of each row of another plan.
func asked(of api.Plan, nodes []api.Node) api.Plan {
	return api.Plan{Kind: api.PlProject, Kids: []api.Plan{of}, E: nodes, Width: len(nodes)}
}
