package engine

import (
	"cordon/api"
	"cordon/rows"
)

// term is a node that is made ready for being done with many rows.
type term struct {
	kind, n int
	s       string
	kids    []term
	query   *query
}

// query is a plan in a node. It sees no columns of the rows that the node is done with, so it comes to the same for all of them: it is done when it is asked for first, and never again. (Else queries within one another would be done more often than there is time for.)
type query struct {
	plan api.Plan
	done bool
	rows []rows.Row
	err  api.Errno
}

func ready(n api.Node) term {
	t := term{kind: n.Kind, n: n.N, s: n.S, kids: readyAll(n.Kids)}
	if len(n.Plans) > 0 {
		t.query = &query{plan: n.Plans[0]}
	}
	return t
}

func readyAll(nodes []api.Node) []term {
	var out []term
	for _, n := range nodes {
		out = append(out, ready(n))
	}
	return out
}

// readyFirst is the one node that a plan's part has; one that is not there is null.
func readyFirst(nodes []api.Node) term {
	if len(nodes) == 0 {
		return term{kind: api.ExNull}
	}
	return ready(nodes[0])
}

// answer is what a query comes to; one that is not there has no rows.
func (w work) answer(q *query) ([]rows.Row, api.Errno) {
	if q == nil {
		return nil, api.OK
	}
	if !q.done {
		q.rows, q.err = w.rows(q.plan)
		q.done = true
	}
	return q.rows, q.err
}
