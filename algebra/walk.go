package algebra

import (
	"slices"

	"cordon/api"
)

// walk visits a node and all in it, from the left; what visit answers says whether the nodes in its plans are visited, too.
func walk(n api.Node, visit func(n api.Node) bool) {
	plans := visit(n)
	for _, kid := range n.Kids {
		walk(kid, visit)
	}
	if !plans {
		return
	}
	for _, p := range n.Plans {
		walkPlan(p, visit)
	}
}

func walkPlan(p api.Plan, visit func(n api.Node) bool) {
	for _, n := range p.E {
		walk(n, visit)
	}
	for _, g := range p.Aggs {
		for _, n := range g.E {
			walk(n, visit)
		}
	}
	for _, kid := range p.Kids {
		walkPlan(kid, visit)
	}
}

// raisesNothing tells whether a node raises nothing itself, whatever is in it. Marks that reckon may come to too great a number, or text, or divide by zero.
func raisesNothing(n api.Node) bool {
	switch n.Kind {
	case api.ExBin:
		if !compares(n.S) {
			return false
		}
		fallthrough
	case api.ExNull, api.ExBool, api.ExInt, api.ExText, api.ExCol, api.ExVar, api.ExNot, api.ExIs, api.ExCase:
		return true
	}
	return false
}

func compares(mark string) bool {
	switch mark {
	case "or", "and", "=", "<>", "<", "<=", ">", ">=":
		return true
	}
	return false
}

// moved is a node whose columns stand so many places further left.
func moved(n api.Node, by int) api.Node {
	if n.Kind == api.ExCol {
		n.N -= by
	}
	n.Kids = cloned(n.Kids, func(kid api.Node) api.Node { return moved(kid, by) })
	return n
}

// cloned is a list of its own, with members of its own.
func cloned[T any](l []T, clone func(x T) T) []T {
	out := slices.Clone(l)
	for i, x := range out {
		out[i] = clone(x)
	}
	return out
}

func cloneNode(n api.Node) api.Node {
	n.Kids = cloned(n.Kids, cloneNode)
	n.Plans = cloned(n.Plans, copyPlan)
	return n
}

// copyPlan is a plan's clone with nothing turned, as it stands within a node.
func copyPlan(p api.Plan) api.Plan { return clonePlan(p, copyPlan) }

// clonePlan is a plan of its own, with what is made of its kids in their place.
func clonePlan(p api.Plan, kid func(p api.Plan) api.Plan) api.Plan {
	p.Kids = cloned(p.Kids, kid)
	p.E = cloned(p.E, cloneNode)
	p.Keys = slices.Clone(p.Keys)
	p.Aggs = cloned(p.Aggs, func(g api.Gather) api.Gather {
		g.E = cloned(g.E, cloneNode)
		return g
	})
	p.Desc = slices.Clone(p.Desc)
	return p
}
