package schema

import "cordon/api"

// flat is a list of its own with the members of another one, which hold no lists.
func flat[T any](l []T) []T {
	if len(l) == 0 {
		return nil
	}
	out := make([]T, len(l))
	copy(out, l)
	return out
}

// cloned is a list of its own, with members of its own.
func cloned[T any](l []T, clone func(x T) T) []T {
	out := flat(l)
	for i, x := range out {
		out[i] = clone(x)
	}
	return out
}

func cloneRelation(r api.Relation) api.Relation {
	r.Cols = flat(r.Cols)
	r.Key = flat(r.Key)
	r.When = cloned(r.When, cloneExpr)
	return r
}

// cloneExpr clones queries, too: a predicate is not asked whether it has some, and they would be shared.
func cloneExpr(x api.Expr) api.Expr {
	x.Kids = cloned(x.Kids, cloneExpr)
	x.Q = cloned(x.Q, cloneQuery)
	return x
}

func cloneQuery(q api.Query) api.Query {
	q.Items = cloned(q.Items, func(i api.Item) api.Item {
		i.E = cloneExpr(i.E)
		return i
	})
	q.From = cloned(q.From, cloneFrom)
	q.Where = cloned(q.Where, cloneExpr)
	q.Group = cloned(q.Group, cloneExpr)
	q.Having = cloned(q.Having, cloneExpr)
	q.Order = cloned(q.Order, func(k api.Key) api.Key {
		k.E = cloneExpr(k.E)
		return k
	})
	q.Kids = cloned(q.Kids, cloneQuery)
	return q
}

func cloneFrom(f api.From) api.From {
	f.Q = cloned(f.Q, cloneQuery)
	f.Kids = cloned(f.Kids, cloneFrom)
	f.On = cloned(f.On, cloneExpr)
	return f
}
