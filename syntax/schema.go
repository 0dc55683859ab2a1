package syntax

import "cordon/api"

func (r *reader) schema() api.Schema {
	var s api.Schema
	for {
		switch {
		case r.take("levels"):
			s.Levels = append(s.Levels, list(r, ",", r.name)...)
		case r.take("order"):
			s.Edges = append(s.Edges, r.edges()...)
		case r.take("table"):
			s.Tables = append(s.Tables, r.table())
		case r.take("channel"):
			s.Channels = append(s.Channels, r.pair())
		case r.take("principal"):
			s.Principals = append(s.Principals, r.pair())
		case r.take("limit"):
			s.Limit = r.number()
		default:
			return s
		}
		r.want(";")
	}
}

// edges reads names of which each stands below the next one.
func (r *reader) edges() []api.Pair {
	low := r.name()
	r.want("<")
	var out []api.Pair
	for _, high := range list(r, "<", r.name) {
		out = append(out, api.Pair{Low: low, High: high})
		low = high
	}
	return out
}

// pair reads a channel, or a principal, and its level.
func (r *reader) pair() api.Pair {
	name := r.name()
	return api.Pair{Low: name, High: r.name()}
}

func (r *reader) table() api.Table {
	t := api.Table{Name: r.name()}
	r.want("rows")
	t.Rows = r.name()
	t.Cols = inBrackets(r, func() []api.Col { return list(r, ",", r.col) })
	if r.take("key") {
		t.Key = inBrackets(r, func() []string { return list(r, ",", r.name) })
	}
	if r.take("hide") {
		t.Hide = r.name()
		r.want("when")
		t.When = []api.Expr{r.expr()}
	}
	return t
}

func (r *reader) col() api.Col {
	c := api.Col{Name: r.name()}
	c.Type = r.valueType()
	c.Null = r.take("null")
	c.Level = r.name()
	return c
}
