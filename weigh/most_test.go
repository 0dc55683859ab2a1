package weigh_test

import (
	"fmt"
	"testing"

	"cordon/algebra"
	"cordon/api"
	"cordon/engine"
	"cordon/plane"
	"cordon/store"
	"cordon/weigh"
)

// atMost looks whether what a plan comes to has no more rows than its cost says, by the tables' sizes and by greater ones.
func atMost(t *testing.T, seed int, d *store.DB, p api.Plan, m *maker) (rows, most int, ok bool) {
	t.Helper()
	l, err := engine.Rows(d, nil, p)
	if err != api.OK {
		return 0, 0, false
	}
	sizes := sizesOf(d)
	most = plane.Rows(weigh.Plan(sizes, p))
	if more := plane.Rows(weigh.Plan(m.more(sizes), p)); len(l) > most || len(l) > more {
		t.Fatalf("%d: %d rows, at most %d, with more %d", seed, len(l), most, more)
	}
	return len(l), most, true
}

// P21.2, over schemas, stores and queries made at random: of their plans, and of what Norm makes of these.
func TestAtMost(t *testing.T) {
	got := map[string]int{}
	for seed := range 12000 {
		w := worldOf(seed)
		p, err := algebra.Plan(w.c, nil, w.query(list(w.Intn(4), w.Intn(4)), 1+w.Intn(3)))
		if err != api.OK {
			got["no plan"]++
			continue
		}
		d := w.store(pick(w.Rand, 0, 1, 3, 6, 6, 12, 30))
		for _, p := range list(p, algebra.Norm(p)) {
			rows, most, ok := atMost(t, seed, d, p, w.maker)
			switch {
			case !ok:
				got["raised"]++
				continue
			case rows == most && rows > 1:
				got["just as many"]++
			case rows == most:
				got["one, or none"]++
			default:
				got["fewer"]++
			}
			kindsIn(p, func(kind int) { got[fmt.Sprint(kind)]++ })
		}
	}
	enough(t, got, 2000, "just as many", "one, or none", "fewer")
	for kind := api.PlOne; kind <= api.PlIntersect; kind++ {
		enough(t, got, 1000, fmt.Sprint(kind))
	}
	if got["no plan"] > 500 || got["raised"] > 6000 {
		t.Error(got)
	}
}

// P21.2, of plans that are not those of queries, over the same tables: all kinds in any order, as far as they come to something.
func TestAtMostOfAny(t *testing.T) {
	got := map[string]int{}
	for seed := range 20000 {
		w := worldOf(500000 + seed)
		w.odd, w.heavy = false, false
		d := w.store(5)
		p := w.plan(1 + w.Intn(5))
		rows, most, ok := atMost(t, seed, d, p, w.maker)
		switch {
		case !ok:
			got["raised"]++
		case rows == most && rows > 0:
			got["just as many"]++
		case rows > 0:
			got["fewer"]++
		}
	}
	enough(t, got, 300, "just as many", "fewer")
}

// P21.2, where it is tight: a join of all pairs, a left one of none, and groups, each of its own.
func TestAtMostIsReached(t *testing.T) {
	w := worldOf(1)
	d := w.store(8)
	yes := api.Node{Kind: api.ExBool, N: 1}
	for name, p := range map[string]api.Plan{
		"join":      with(over(api.PlJoin, scan(0), scan(0)), yes),
		"left":      over(api.PlLeft, scan(0), limit(0, scan(0))),
		"one group": over(api.PlGroup, limit(0, scan(0))),
		"union all": over(api.PlUnionAll, scan(0), scan(0)),
		"limit":     limit(2, scan(0)),
	} {
		if rows, most, ok := atMost(t, 1, d, p, w.maker); !ok || rows != most || rows == 0 {
			t.Errorf("%s: %d of %d", name, rows, most)
		}
	}
}
