package algebra

import (
	"slices"

	"cordon/api"
)

// settled is what a plan comes to whose kids are simple already. What came of it is tried again, till nothing is simpler.
func settled(p api.Plan) api.Plan {
again:
	if next, ok := simpler(p); ok {
		p = next
		goto again
	}
	return p
}

// simpler is what the first rule that fits makes of a plan. All of them are of plans with one kid; one that has more, or none, is no query's.
func simpler(p api.Plan) (api.Plan, bool) {
	if len(p.Kids) != 1 {
		return api.Plan{}, false
	}
	kid := p.Kids[0]
	switch p.Kind {
	case api.PlSelect:
		if len(p.E) == 1 && isTrue(p.E[0]) {
			return kid, true
		}
		return lowered(p, kid)
	case api.PlLimit:
		kid.N = min(p.N, kid.N)
		return kid, kid.Kind == api.PlLimit
	case api.PlDistinct:
		return kid, tellsOnce(kid.Kind)
	case api.PlOrder:
		return kid, len(p.E) == 0
	}
	return api.Plan{}, false
}

func isTrue(n api.Node) bool { return n.Kind == api.ExBool && n.N == 1 }

// tellsOnce tells whether plans of a kind tell each row once.
func tellsOnce(kind int) bool {
	switch kind {
	case api.PlDistinct, api.PlUnion, api.PlExcept, api.PlIntersect:
		return true
	}
	return false
}

// lowered is a join with the select, which stood above it, of that one of its kids whose columns alone the select uses.
func lowered(p, join api.Plan) (api.Plan, bool) {
	if join.Kind != api.PlJoin || len(join.Kids) != 2 || !allTotal(p.E) || !allTotal(join.E) {
		return api.Plan{}, false
	}
	uses := Uses(p.E[0])
	first, second := join.Kids[0].Width, join.Kids[1].Width
	switch {
	case allWithin(uses, 0, first):
		return put(p, join, 0, 0), true
	case allWithin(uses, first, second):
		return put(p, join, 1, first), true
	}
	return api.Plan{}, false
}

// allTotal tells whether there is just the one node that a select, or a join, has, and that can raise nothing.
func allTotal(l []api.Node) bool { return len(l) == 1 && Total(l[0]) }

// allWithin tells whether places are those of columns, so many of them from one on. How far a place is behind that one may be more than an int tells, if it is below 0.
func allWithin(places []int, from, width int) bool {
	return !slices.ContainsFunc(places, func(at int) bool { return at < from || uint(at)-uint(from) >= uint(max(width, 0)) })
}

// put is a join with a select of one of its kids in that one's place. The select is tried there, as that kid may be a join itself.
func put(p, join api.Plan, at, by int) api.Plan {
	join.Kids = slices.Clone(join.Kids)
	kid := join.Kids[at]
	p.E = []api.Node{moved(p.E[0], by)}
	p.Kids, p.Width = []api.Plan{kid}, kid.Width
	join.Kids[at] = settled(p)
	return join
}
