package syntax

import "cordon/api"

// noLimit is the Limit of a query that tells none.
const noLimit = -1

func (r *reader) query() api.Query { return deeper(r, r.parts) }

func (r *reader) parts() api.Query {
	return fromLeft(r, r.part(), func(left api.Query, word string) api.Query {
		kind := r.together(word)
		return api.Query{Kind: kind, Limit: noLimit, Kids: []api.Query{left, r.part()}}
	}, "union", "except", "intersect")
}

// together is how a word puts two queries together.
func (r *reader) together(word string) int {
	switch {
	case word == "except":
		return api.QuExcept
	case word == "intersect":
		return api.QuIntersect
	case r.take("all"):
		return api.QuUnionAll
	}
	return api.QuUnion
}

func (r *reader) part() api.Query {
	if r.sees("(") {
		return inBrackets(r, r.query)
	}
	r.want("select")
	q := api.Query{Kind: api.QuSelect, Distinct: r.take("distinct"), Limit: noLimit}
	q.Items = list(r, ",", r.item)
	q.From = behind(r, "from", r.source)
	q.Where = behind(r, "where", r.expr)
	if r.take("group") {
		r.want("by")
		q.Group = list(r, ",", r.expr)
		q.Having = behind(r, "having", r.expr)
	}
	if r.take("order") {
		r.want("by")
		q.Order = list(r, ",", r.key)
	}
	if r.take("limit") {
		q.Limit = r.number()
	}
	return q
}

func (r *reader) item() api.Item {
	x := r.expr()
	r.want("as")
	return api.Item{E: x, Name: r.name()}
}

func (r *reader) key() api.Key {
	x := r.expr()
	return api.Key{E: x, Desc: r.take("desc")}
}

func (r *reader) source() api.From {
	return fromLeft(r, r.one(), func(left api.From, word string) api.From {
		out := api.From{Kind: api.FrJoin}
		if word == "left" {
			r.want("join")
			out.Kind = api.FrLeft
		}
		out.Kids = []api.From{left, r.one()}
		r.want("on")
		out.On = []api.Expr{r.expr()}
		return out
	}, "left", "join")
}

func (r *reader) one() api.From {
	if r.sees("(") {
		q := inBrackets(r, r.query)
		r.want("as")
		return api.From{Kind: api.FrQuery, As: r.name(), Q: []api.Query{q}}
	}
	table := r.name()
	out := api.From{Kind: api.FrTable, Table: table, Visible: r.take("visible"), As: table}
	if r.take("as") {
		out.As = r.name()
	}
	return out
}
