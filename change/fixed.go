package change

import "cordon/api"

// Fixed are a table's columns that don't change. A place of the key, or a name in the predicate, that none of its columns has is none of them.
func Fixed(r api.Relation) []int {
	keys := make(map[int]struct{}, len(r.Key))
	for _, place := range r.Key {
		keys[place] = struct{}{}
	}
	names := map[string]struct{}{}
	if len(r.When) > 0 {
		walk(r.When[0], func(x api.Expr) {
			if x.Kind == api.ExCol && (x.T == "" || x.T == r.Name) {
				names[x.S] = struct{}{}
			}
		})
	}
	var out []int
	for place, col := range r.Cols {
		_, inKey := keys[place]
		_, inWhen := names[col.Name]
		if inKey || inWhen {
			out = append(out, place)
		}
	}
	return out
}

// walk visits an expression and all in it. Queries are no part of a predicate.
func walk(x api.Expr, visit func(x api.Expr)) {
	visit(x)
	for _, kid := range x.Kids {
		walk(kid, visit)
	}
}
