package algebra

import (
	"slices"

	"cordon/api"
)

// plan is a query's. A query sees nothing of what it stands in but variables, which nodes tell by their names.
func (s scope) plan(q api.Query) api.Plan {
	switch q.Kind {
	case api.QuUnion:
		return s.together(api.PlUnion, q)
	case api.QuUnionAll:
		return s.together(api.PlUnionAll, q)
	case api.QuExcept:
		return s.together(api.PlExcept, q)
	case api.QuIntersect:
		return s.together(api.PlIntersect, q)
	}
	return s.over(nil).selected(q)
}

func (s scope) together(kind int, q api.Query) api.Plan {
	kids := each(q.Kids, s.plan)
	return api.Plan{Kind: kind, Kids: kids, Width: kids[0].Width}
}

// selected is the plan of a QuSelect. Items and Having are made ahead of the PlGroup that stands below them, as they say what is to be gathered there.
func (s scope) selected(q api.Query) api.Plan {
	p, rows := s.source(q)
	p = chosen(p, each(q.Where, rows.node))
	told := rows
	if isGrouped(q) {
		told.group = &group{keys: each(q.Group, rows.column)}
	}
	items := each(q.Items, func(i api.Item) api.Node { return told.node(i.E) })
	having := each(q.Having, told.node)
	if g := told.group; g != nil {
		p = api.Plan{Kind: api.PlGroup, Kids: []api.Plan{p}, Keys: g.keys, Aggs: g.aggs, Width: len(g.keys) + len(g.aggs)}
	}
	p = chosen(p, having)
	p = api.Plan{Kind: api.PlProject, Kids: []api.Plan{p}, E: items, Width: len(items)}
	return s.over(columns(q, "")).arranged(p, q)
}

// arranged is a plan behind whose items the rows are told once, in order, or not all; the scope is over the items' names.
func (s scope) arranged(p api.Plan, q api.Query) api.Plan {
	if q.Distinct {
		p = above(api.PlDistinct, p)
	}
	if len(q.Order) > 0 {
		p = above(api.PlOrder, p)
		p.E = each(q.Order, func(k api.Key) api.Node { return s.node(k.E) })
		p.Desc = each(q.Order, func(k api.Key) bool { return k.Desc })
	}
	if q.Limit >= 0 {
		p = above(api.PlLimit, p)
		p.N = q.Limit
	}
	return p
}

// chosen is a plan of just the rows for which a condition is true, if there is one.
func chosen(p api.Plan, conditions []api.Node) api.Plan {
	if len(conditions) == 0 {
		return p
	}
	p = above(api.PlSelect, p)
	p.E = conditions
	return p
}

// above is a plan of a kind that has the columns of the one it takes its rows from.
func above(kind int, kid api.Plan) api.Plan {
	return api.Plan{Kind: kind, Kids: []api.Plan{kid}, Width: kid.Width}
}

// isGrouped need not look at Having, as that stands with a Group alone (7).
func isGrouped(q api.Query) bool {
	return len(q.Group) > 0 || slices.ContainsFunc(q.Items, func(i api.Item) bool { return gathers(i.E) })
}

// gathers tells whether there is an ExAgg in an expression; those in its queries are theirs.
func gathers(x api.Expr) bool {
	return x.Kind == api.ExAgg || slices.ContainsFunc(x.Kids, gathers)
}

// columns are the columns of a query as they are named, of t; two that are put together have the first one's names. No type is told, as none is asked for.
func columns(q api.Query, t string) []api.Place {
	for q.Kind != api.QuSelect {
		q = q.Kids[0]
	}
	return each(q.Items, func(i api.Item) api.Place { return api.Place{T: t, Name: i.Name} })
}

// source is the plan of what a query's rows come from, and the scope of what is told of them.
func (s scope) source(q api.Query) (api.Plan, scope) {
	if len(q.From) == 0 {
		return api.Plan{Kind: api.PlOne}, s
	}
	p, places := s.from(q.From[0])
	return p, s.over(places)
}

func (s scope) from(f api.From) (api.Plan, []api.Place) {
	kind := api.PlJoin
	switch f.Kind {
	case api.FrTable:
		return s.table(f)
	case api.FrQuery:
		return s.plan(f.Q[0]), columns(f.Q[0], f.As)
	case api.FrLeft:
		kind = api.PlLeft
		fallthrough
	default:
		return s.join(kind, f)
	}
}

func (s scope) table(f api.From) (api.Plan, []api.Place) {
	at, _ := s.c.Table(f.Table)
	fields := s.tables[at].Cols
	p := api.Plan{Kind: api.PlScan, N: at, Width: len(fields)}
	if f.Visible {
		p.Kind = api.PlVisible
	}
	return p, each(fields, func(field api.Field) api.Place { return api.Place{T: f.As, Name: field.Name} })
}

func (s scope) join(kind int, f api.From) (api.Plan, []api.Place) {
	a, first := s.from(f.Kids[0])
	b, second := s.from(f.Kids[1])
	places := slices.Concat(first, second)
	p := api.Plan{Kind: kind, Kids: []api.Plan{a, b}, Width: a.Width + b.Width}
	p.E = each(f.On, s.over(places).node)
	return p, places
}
