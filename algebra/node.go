package algebra

import (
	"slices"

	"cordon/api"
	"cordon/schema"
)

// scope is where an expression stands that has a type (9), so that all of its columns are found: over which places, and, if it is told of groups, of which.
type scope struct {
	c      *schema.Catalog
	tables []api.Relation
	places []api.Place
	group  *group
}

// group is what rows are grouped by, and what was asked of the groups till now.
type group struct {
	keys []int
	aggs []api.Gather
}

// newScope asks the catalog for its tables once, as all of them are cloned each time.
func newScope(c *schema.Catalog) scope { return scope{c: c, tables: c.Tables()} }

// over is a scope of rows with these places, each for itself.
func (s scope) over(places []api.Place) scope {
	s.places, s.group = places, nil
	return s
}

func (s scope) node(x api.Expr) api.Node {
	switch x.Kind {
	case api.ExCol:
		return api.Node{Kind: api.ExCol, N: s.column(x)}
	case api.ExAgg:
		return api.Node{Kind: api.ExCol, N: s.gathered(x)}
	}
	return api.Node{Kind: x.Kind, N: x.N, S: x.S, Kids: each(x.Kids, s.node), Plans: each(x.Q, s.plan)}
}

// column is a column's place among the places, or, behind a group, among its keys.
func (s scope) column(x api.Expr) int {
	at := slices.IndexFunc(s.places, func(p api.Place) bool { return p.Name == x.S && (x.T == "" || p.T == x.T) })
	if s.group != nil {
		return slices.Index(s.group.keys, at)
	}
	return at
}

// gathered is the place, behind all keys, of what an ExAgg gathers, which is asked of the group beside all that was asked of it ahead.
func (s scope) gathered(x api.Expr) int {
	g := s.group
	g.aggs = append(g.aggs, api.Gather{Fn: x.S, E: each(x.Kids, s.over(s.places).node)})
	return len(g.keys) + len(g.aggs) - 1
}

// each is a list of what is made of each member of another one, in order.
func each[A, B any](l []A, do func(x A) B) []B {
	var out []B
	for _, x := range l {
		out = append(out, do(x))
	}
	return out
}
