package algebra_test

import (
	"math/big"
	"math/rand"
	"slices"
	"testing"

	"cordon/algebra"
	"cordon/api"
)

// P10.4 a second way: one rule once, at the first of the innermost plans that one fits, till there is none such.

// rules are those of the chapter, in its order. Each is of plans with one kid.
var rules = []func(p, kid api.Plan) (api.Plan, bool){
	func(p, kid api.Plan) (api.Plan, bool) {
		return kid, p.Kind == api.PlSelect && len(p.E) == 1 && p.E[0].Kind == api.ExBool && p.E[0].N == 1
	},
	func(p, kid api.Plan) (api.Plan, bool) {
		least := kid
		if p.N < kid.N {
			least.N = p.N
		}
		return least, p.Kind == api.PlLimit && kid.Kind == api.PlLimit
	},
	func(p, kid api.Plan) (api.Plan, bool) {
		once := []int{api.PlDistinct, api.PlUnion, api.PlExcept, api.PlIntersect}
		return kid, p.Kind == api.PlDistinct && slices.Contains(once, kid.Kind)
	},
	func(p, kid api.Plan) (api.Plan, bool) { return kid, p.Kind == api.PlOrder && len(p.E) == 0 },
	func(p, kid api.Plan) (api.Plan, bool) { return intoKid(p, kid, 0, 0) },
	func(p, kid api.Plan) (api.Plan, bool) {
		if len(kid.Kids) != 2 {
			return p, false
		}
		return intoKid(p, kid, 1, kid.Kids[0].Width)
	},
}

// intoKid is the rule of joins for one kid, whose columns begin at a place.
func intoKid(p, join api.Plan, i, begin int) (api.Plan, bool) {
	if p.Kind != api.PlSelect || join.Kind != api.PlJoin || len(join.Kids) != 2 || len(p.E) != 1 || len(join.E) != 1 {
		return p, false
	}
	fits := true
	each := func(n api.Node) {
		ok := n.Kind >= api.ExNull && n.Kind <= api.ExVar || n.Kind == api.ExNot || n.Kind == api.ExIs || n.Kind == api.ExCase
		fits = fits && (ok || n.Kind == api.ExBin && slices.Contains(marks[:8], n.S))
	}
	visit(&p.E[0], true, func(n *api.Node) { each(*n) })
	visit(&join.E[0], true, func(n *api.Node) { each(*n) })
	p, join = copied(p), copied(join)
	visit(&p.E[0], false, func(n *api.Node) {
		if n.Kind == api.ExCol {
			end := new(big.Int).Add(big.NewInt(int64(begin)), big.NewInt(int64(join.Kids[i].Width)))
			fits = fits && n.N >= begin && big.NewInt(int64(n.N)).Cmp(end) < 0
			n.N -= begin
		}
	})
	p.Kids, p.Width = one(join.Kids[i]), join.Kids[i].Width
	join.Kids[i] = p
	return join, fits
}

// visit calls a function with each node in one, where it stands.
func visit(n *api.Node, plans bool, do func(n *api.Node)) {
	do(n)
	for i := range n.Kids {
		visit(&n.Kids[i], plans, do)
	}
	if plans {
		for i := range n.Plans {
			visitPlan(&n.Plans[i], do)
		}
	}
}

func visitPlan(p *api.Plan, do func(n *api.Node)) {
	for i := range p.E {
		visit(&p.E[i], true, do)
	}
	for i := range p.Aggs {
		for j := range p.Aggs[i].E {
			visit(&p.Aggs[i].E[j], true, do)
		}
	}
	for i := range p.Kids {
		visitPlan(&p.Kids[i], do)
	}
}

// step does one rule once; it tells whether there was one.
func step(p *api.Plan) bool {
	for i := range p.Kids {
		if step(&p.Kids[i]) {
			return true
		}
	}
	if len(p.Kids) != 1 {
		return false
	}
	for _, rule := range rules {
		if next, ok := rule(*p, p.Kids[0]); ok {
			*p = next
			return true
		}
	}
	return false
}

func rewritten(p api.Plan) api.Plan {
	p = copied(p)
	for step(&p) {
	}
	return p
}

// layers are plans that are laid onto others; of joins they use a column of the first, the second, both, or none.
func layers() []func(kid api.Plan) api.Plan {
	selects := func(n api.Node) func(kid api.Plan) api.Plan {
		return func(kid api.Plan) api.Plan { return chosen(kid, n) }
	}
	return []func(kid api.Plan) api.Plan{
		selects(truth(1)), selects(truth(0)), selects(at(0)), selects(eq(1, 1)), selects(eq(0, 1)), selects(kindOf(api.ExNot, at(2))), selects(kindOf(api.ExNeg, at(0))),
		func(kid api.Plan) api.Plan { return limited(kid, 3) },
		func(kid api.Plan) api.Plan { return limited(kid, 2) },
		distinct,
		func(kid api.Plan) api.Plan { return ordered(kid) },
		func(kid api.Plan) api.Plan { return ordered(kid, at(0)) },
		func(kid api.Plan) api.Plan { return join(kid, scan(1, 1), eq(0, 1)) },
		func(kid api.Plan) api.Plan { return join(scan(1, 1), kid, truth(1)) },
		func(kid api.Plan) api.Plan { return join(kid, kid, marked(at(0), "+", at(1))) },
		func(kid api.Plan) api.Plan { return pair(api.PlUnion, kid, scan(0, 1)) },
		func(kid api.Plan) api.Plan { return pair(api.PlLeft, kid, scan(0, 1), truth(1)) },
		func(kid api.Plan) api.Plan { return project(kid, at(0), at(0)) },
	}
}

// P10.4, P10.6: all chains of rules, any two and three at once and within one another.
func TestNormChains(t *testing.T) {
	bases := one(scan(0, 2), join(scan(0, 1), scan(1, 2), truth(0)), join(scan(0, 1), join(scan(1, 1), scan(2, 1), at(0)), eq(0, 2)), join(join(scan(0, 1), scan(1, 1), at(0)), scan(2, 1), eq(0, 2)), pair(api.PlExcept, scan(0, 1), scan(1, 1)))
	all, turned := layers(), 0
	for _, base := range bases {
		for _, a := range all {
			for _, b := range all {
				for _, c := range all {
					p := c(b(a(base)))
					if planTold(normHolds(t, p)) != planTold(p) {
						turned++
					}
				}
			}
		}
		if t.Failed() {
			return
		}
	}
	if turned < 5000 {
		t.Errorf("just %d are turned", turned)
	}
}

// oddNumber is one that may be, or not.
func oddNumber(rnd *rand.Rand) int {
	return pick(rnd, 0, 0, 1, 1, 1, 2, 3, -1, -2, 1<<63-1, -1<<63)
}

func oddNode(rnd *rand.Rand, deep int) api.Node {
	n := api.Node{Kind: rnd.Intn(19) - 2, N: oddNumber(rnd), S: pick(rnd, "", "or", "=", "+", "v")}
	if deep > 0 {
		n.Kids = numbered(pick(rnd, 0, 0, 1, 2, 3), func(int) api.Node { return oddNode(rnd, deep-1) })
		n.Plans = numbered(pick(rnd, 0, 0, 0, 0, 1), func(int) api.Plan { return oddPlan(rnd, deep-1) })
	}
	return n
}

func oddPlan(rnd *rand.Rand, deep int) api.Plan {
	p := api.Plan{Kind: rnd.Intn(19) - 2, N: oddNumber(rnd), Width: oddNumber(rnd)}
	if rnd.Intn(2) == 0 {
		p.Kind = pick(rnd, api.PlSelect, api.PlLimit, api.PlDistinct, api.PlOrder, api.PlJoin, api.PlJoin)
	}
	if deep > 0 {
		p.Kids = numbered(pick(rnd, 0, 1, 1, 1, 1, 2, 2, 2, 3), func(int) api.Plan { return oddPlan(rnd, deep-1) })
	}
	p.E = numbered(pick(rnd, 0, 0, 1, 1, 1, 1, 1, 2), func(int) api.Node {
		return pick(rnd, truth(1), truth(0), at(oddNumber(rnd)), eq(oddNumber(rnd), oddNumber(rnd)), oddNode(rnd, min(deep, 2)))
	})
	p.Keys = numbered(rnd.Intn(2), func(int) int { return oddNumber(rnd) })
	p.Aggs = numbered(rnd.Intn(2), func(int) api.Gather {
		return api.Gather{Fn: pick(rnd, "", "sum"), E: numbered(rnd.Intn(3), func(int) api.Node { return oddNode(rnd, min(deep, 1)) })}
	})
	p.Desc = numbered(rnd.Intn(3), func(i int) bool { return i == 1 })
	return p
}

// P1, P2, P10.4 and P10.6, of plans that no query has: kinds that there are not, no kids or too many, no nodes or too many, numbers below 0.
func TestNormOfOddPlans(t *testing.T) {
	rnd, turned := rand.New(rand.NewSource(104)), 0
	for range 8000 {
		p := oddPlan(rnd, 4)
		if planTold(normHolds(t, p)) != planTold(p) {
			turned++
		}
		normHolds(t, emptied(p))
		if t.Failed() {
			return
		}
	}
	if turned < 1500 {
		t.Errorf("just %d are turned", turned)
	}
}

// A rule fits just a plan that has the one kid, and the one node, that its kind has.
func TestNormOfWrongPlans(t *testing.T) {
	a, j := scan(0, 1), join(scan(0, 1), scan(1, 1), truth(1))
	for kind := -1; kind < 17; kind++ {
		stays(t, api.Plan{Kind: kind})
		stays(t, api.Plan{Kind: kind, N: -3, E: one(truth(1)), Keys: one(-1), Desc: one(true), Width: -2})
		stays(t, api.Plan{Kind: kind, E: one(truth(1)), Kids: one(a, a)})
		stays(t, api.Plan{Kind: kind, Kids: one(limited(a, 1), distinct(a), j)})
	}
	stays(t, api.Plan{Kind: api.PlSelect, Kids: one(a)})
	stays(t, api.Plan{Kind: api.PlSelect, Kids: one(j)})
	stays(t, api.Plan{Kind: api.PlSelect, E: one(truth(1), truth(1)), Kids: one(a)})
	stays(t, api.Plan{Kind: api.PlSelect, E: one(at(0), at(0)), Kids: one(j)})
	for _, wrong := range []func(j *api.Plan){
		func(j *api.Plan) { j.Kids = nil },
		func(j *api.Plan) { j.Kids = j.Kids[:1] },
		func(j *api.Plan) { j.Kids = append(j.Kids, a) },
		func(j *api.Plan) { j.E = nil },
		func(j *api.Plan) { j.E = append(j.E, truth(1)) },
	} {
		stays(t, chosen(with(j, wrong), at(0)))
		stays(t, chosen(with(j, wrong), truth(0)))
	}
	normIs(t, limited(limited(a, -1), 2), "limit:-1/1(scan/1)")
	normIs(t, limited(limited(a, 2), -5), "limit:-5/1(scan/1)")
	normIs(t, distinct(api.Plan{Kind: api.PlUnion}), "union")
	normIs(t, limited(api.Plan{Kind: api.PlLimit, N: 4}, 3), "limit:3")
}

// P10.4 and P10.6, of what queries made at random come to, and of chains of layers on them.
func TestNormOfMade(t *testing.T) {
	w, m, turned := ours(), ourMaker(105, 0), 0
	all := layers()
	for range 4000 {
		p, err := algebra.Plan(w.c, w.vars, m.query(m.kinds(3), 1+m.rnd.Intn(4)))
		if err != api.OK {
			continue
		}
		if planTold(normHolds(t, p)) != planTold(p) {
			turned++
		}
		for range m.rnd.Intn(3) {
			p = pick(m.rnd, all...)(p)
		}
		normHolds(t, p)
		if t.Failed() {
			return
		}
	}
	if turned < 300 {
		t.Errorf("just %d are turned", turned)
	}
}
