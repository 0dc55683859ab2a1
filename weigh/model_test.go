package weigh_test

import (
	"math/big"

	"cordon/api"
)

// model is a second way to a plan's cost: with numbers without bounds, of which nothing is cut but what comes out.
type model struct{ sizes []int }

// heavy is a cost that is not cut.
type heavy struct{ steps, rows *big.Int }

func num(n int) *big.Int { return big.NewInt(int64(n)) }

func sum(l ...*big.Int) *big.Int {
	out := num(0)
	for _, n := range l {
		out.Add(out, n)
	}
	return out
}

func times(a, b *big.Int) *big.Int { return new(big.Int).Mul(a, b) }

func smaller(a, b *big.Int) *big.Int {
	if a.Cmp(b) < 0 {
		return a
	}
	return b
}

func (m model) cost(p api.Plan) at {
	h := m.plan(p)
	return at{int(smaller(h.steps, num(most)).Int64()), int(smaller(h.rows, num(most)).Int64())}
}

// kidsByKind has a number for each kind, as they stand in api.
var kidsByKind = [...]int{-1, 0, 0, 0, 1, 1, 2, 2, 1, 1, 1, 1, 2, 2, 2, 2}

func (m model) table(n int) int {
	for i, size := range m.sizes {
		switch {
		case i != n:
		case size > 100:
			return 100
		case size > 0:
			return size
		}
	}
	return 0
}

func (m model) plan(p api.Plan) heavy {
	if p.Kind < 1 || p.Kind >= len(kidsByKind) || kidsByKind[p.Kind] != len(p.Kids) {
		return heavy{num(0), num(0)}
	}
	if len(p.Kids) == 0 {
		n := 1
		if p.Kind != api.PlOne {
			n = m.table(p.N)
		}
		return heavy{num(n), num(n)}
	}
	first := m.plan(p.Kids[0])
	second := heavy{num(0), num(0)}
	if len(p.Kids) == 2 {
		second = m.plan(p.Kids[1])
	}
	seen := sum(first.rows, second.rows)
	if p.Kind == api.PlJoin || p.Kind == api.PlLeft {
		seen = times(first.rows, second.rows)
	}
	steps := sum(first.steps, second.steps, seen)
	for _, q := range plansOf(p) {
		steps = sum(steps, times(seen, m.plan(q).steps))
	}
	return heavy{steps, m.rows(p, first.rows, second.rows)}
}

func (m model) rows(p api.Plan, a, b *big.Int) *big.Int {
	switch p.Kind {
	case api.PlGroup:
		if len(p.Keys) == 0 {
			return num(1)
		}
	case api.PlLimit:
		if p.N < 0 {
			return num(0)
		}
		return smaller(a, num(p.N))
	case api.PlUnion, api.PlUnionAll:
		return sum(a, b)
	case api.PlJoin:
		return times(a, b)
	case api.PlLeft:
		if b.Sign() == 0 {
			return a
		}
		return times(a, b)
	}
	return a
}

// plansOf are all plans in the nodes of a plan, in any order; not those in nodes of these.
func plansOf(p api.Plan) []api.Plan {
	work := append([]api.Node(nil), p.E...)
	for _, g := range p.Aggs {
		work = append(work, g.E...)
	}
	var out []api.Plan
	for len(work) > 0 {
		n := work[len(work)-1]
		work = append(work[:len(work)-1], n.Kids...)
		out = append(out, n.Plans...)
	}
	return out
}
