package weigh_test

import (
	"math/rand"
	"testing"

	"cordon/api"
)

func pick[T any](rnd *rand.Rand, l ...T) T { return l[rnd.Intn(len(l))] }

// maker makes sizes and plans.
type maker struct {
	*rand.Rand
	odd   bool // some plans are such as no query has
	heavy bool // tables are full, and there are many joins
	left  int  // how many plans may still be made in nodes
}

// makerOf makes plans of each sort in turn.
func makerOf(seed int) *maker {
	return &maker{Rand: rand.New(rand.NewSource(int64(seed))), odd: seed%2 == 0, heavy: seed%3 == 0, left: 8}
}

// size is one of a table: of a few rows, of many, or one that may not be.
func (m *maker) size() int {
	if m.heavy && m.Intn(8) > 0 {
		return api.MaxRows - m.Intn(50)
	}
	switch m.Intn(8) {
	case 0:
		return pick(m.Rand, least, -5, -1, api.MaxRows+1, 1000, greatest)
	case 1, 2:
		return pick(m.Rand, 0, 1, api.MaxRows-1, api.MaxRows)
	case 3, 4:
		return m.Intn(api.MaxRows + 1)
	}
	return m.Intn(6)
}

func (m *maker) sizes() []int { return numbered(5-m.Intn(3), func(int) int { return m.size() }) }

// top makes a plan of any depth.
func (m *maker) top() api.Plan {
	if m.heavy {
		return m.plan(4 + m.Intn(3))
	}
	return m.plan(1 + m.Intn(6))
}

func (m *maker) plan(deep int) api.Plan {
	p := api.Plan{Width: m.Intn(4)}
	kids := pick(m.Rand, 0, 1, 1, 2, 2)
	if m.heavy {
		kids = pick(m.Rand, 1, 2, 2)
	}
	if deep <= 1 {
		kids = 0
	}
	p.Kind = pick(m.Rand, list(leaves, single, double)[kids]...)
	if m.heavy && kids == 2 && m.Intn(4) > 0 {
		p.Kind = api.PlJoin
	}
	if p.Kind == api.PlOne && m.Intn(2) == 0 {
		p.Kind = api.PlScan
	}
	if m.odd && m.Intn(12) == 0 {
		kids = m.Intn(4)
	}
	if m.odd && m.Intn(25) == 0 {
		p.Kind = pick(m.Rand, least, -1, 0, 16, 17, 100, greatest)
	}
	p.Kids = numbered(kids, func(int) api.Plan { return m.plan(deep - 1) })
	m.fill(&p, deep)
	return p
}

// fill gives a plan all but its kind and its kids.
func (m *maker) fill(p *api.Plan, deep int) {
	switch {
	case p.Kind == api.PlLimit:
		p.N = pick(m.Rand, 0, 1, 2, 5, 100, 10000, most-1, most, most+1, greatest)
		if m.odd && m.Intn(6) == 0 {
			p.N = pick(m.Rand, -1, least)
		}
	case m.odd && m.Intn(8) == 0:
		p.N = pick(m.Rand, least, -1, 5, 6, greatest)
	default:
		p.N = m.Intn(5)
	}
	if p.Kind == api.PlGroup || m.odd {
		p.Keys = numbered(m.Intn(3), func(i int) int { return i })
		p.Aggs = numbered(m.Intn(3), func(int) api.Gather {
			return api.Gather{Fn: "count", E: numbered(m.Intn(3), func(int) api.Node { return m.node(deep, 3) })}
		})
	}
	if p.Kind > api.PlVisible || m.odd {
		p.E = numbered(m.Intn(3), func(int) api.Node { return m.node(deep, 3) })
	}
}

func (m *maker) node(deep, high int) api.Node {
	n := api.Node{Kind: 1 + m.Intn(api.ExScalar), N: m.Intn(3)}
	if high > 1 {
		n.Kids = numbered(m.Intn(3), func(int) api.Node { return m.node(deep, high-1) })
	}
	if m.left > 0 && m.Intn(4) == 0 {
		n.Plans = numbered(1+m.Intn(2), func(int) api.Plan {
			m.left--
			return m.plan(min(3, deep))
		})
	}
	return n
}

// enough looks whether each of some things came often enough.
func enough(t *testing.T, got map[string]int, least int, names ...string) {
	t.Helper()
	for _, name := range names {
		if got[name] < least {
			t.Errorf("%s came %d times, of %v", name, got[name], got)
		}
	}
}

// kindsIn tells of which kinds a plan, and all plans in it, are.
func kindsIn(p api.Plan, see func(kind int)) {
	see(p.Kind)
	for _, kid := range p.Kids {
		kindsIn(kid, see)
	}
	for _, q := range plansOf(p) {
		kindsIn(q, see)
	}
}
