package audit_test

import (
	"math"
	"reflect"
	"testing"

	"cordon/algebra"
	"cordon/api"
	"cordon/audit"
	"cordon/store"
)

// oddNodes are nodes that no expression has.
func oddNodes() []api.Node {
	out := []api.Node{{}, {Kind: -1}, {Kind: api.ExAgg, S: "count"}, {Kind: 99, Kids: one(api.Node{Kind: api.ExNull})}, {Kind: math.MaxInt}, {Kind: math.MinInt}, {Kind: api.ExBool, N: 7}, {Kind: api.ExInt, S: "x"}, {Kind: api.ExVar, S: "nobody"}}
	for _, n := range []int{-1, 3, 99, math.MaxInt, math.MinInt} {
		out = append(out, api.Node{Kind: api.ExCol, N: n})
	}
	for kind := api.ExNeg; kind <= api.ExScalar; kind++ {
		for _, mark := range []string{"", "+", "/", "||", "and", "=", "nothing"} {
			out = append(out, api.Node{Kind: kind, S: mark}, api.Node{Kind: kind, S: mark, Kids: one(api.Node{Kind: api.ExInt, N: 1}, api.Node{Kind: api.ExText, S: "x"}, api.Node{}, api.Node{Kind: api.ExNull})})
		}
		out = append(out, api.Node{Kind: kind, Plans: make([]api.Plan, 3)}, api.Node{Kind: kind, Kids: make([]api.Node, 2), Plans: one(api.Plan{Kind: api.PlScan, N: 99}, api.Plan{Kind: api.PlScan})})
	}
	return out
}

// oddPlans are plans that no query has: of no kind, without kids, with too many, of tables and columns that are not there, and with odd nodes.
func oddPlans() []api.Plan {
	scan := api.Plan{Kind: api.PlScan, Width: 4}
	out := []api.Plan{{}, {Kind: -1, Kids: one(scan)}, {Kind: 16, Kids: one(scan, scan)}, {Kind: math.MaxInt, N: math.MinInt, Width: -1}, {Kind: math.MinInt}}
	for _, n := range []int{-1, 6, 99, math.MaxInt, math.MinInt} {
		out = append(out, api.Plan{Kind: api.PlScan, N: n}, api.Plan{Kind: api.PlVisible, N: n, Width: n}, api.Plan{Kind: api.PlLimit, N: n, Kids: one(scan)}, api.Plan{Kind: api.PlGroup, Keys: one(n, 0), Kids: one(scan)})
	}
	for kind := api.PlOne; kind <= api.PlIntersect; kind++ {
		for n := range 4 {
			kids := numbered(n, func(i int) api.Plan { return api.Plan{Kind: api.PlScan, N: i, Width: i} })
			out = append(out, api.Plan{Kind: kind, Kids: kids}, api.Plan{Kind: kind, Kids: kids, E: make([]api.Node, 3), Desc: one(true), Width: -n}, api.Plan{Kind: kind, Kids: make([]api.Plan, n), Keys: one(0, -1, 9), Aggs: one(api.Gather{}, api.Gather{Fn: "sum"}, api.Gather{Fn: "max", E: make([]api.Node, 2)})})
		}
		for _, node := range oddNodes() {
			out = append(out, api.Plan{Kind: kind, Kids: one(scan, scan), E: one(node), Aggs: one(api.Gather{Fn: "sum", E: one(node)}), Width: 1})
		}
	}
	return out
}

// isErr tells whether it is an error, or OK.
func isErr(err api.Errno) bool { return err >= api.OK && err <= api.ErrShape }

// P1 and P2: plans that no query has. None panics; whoever asks, errors are such, with no rows beside, and nothing is changed.
func TestOddPlans(t *testing.T) {
	for _, c := range ours() {
		d := ourStore(c)
		was := storeTold(d)
		plans, others := oddPlans(), oddPlans()
		for i, p := range plans {
			for _, who := range []string{"ann", "bob", "zoe"} {
				may := audit.May(c, who, p)
				checkIs(t, "May", may == api.OK || may == api.ErrFlow, true)
				rows, err := audit.Ask(d, who, p)
				if !isErr(err) || err != api.OK && len(rows) > 0 || may != api.OK && err != may {
					t.Errorf("%d: %v: %v, %s", i, may, err, rowsTold(rows))
				}
			}
			checkErr(t, i, audit.May(c, "nobody", p), api.ErrName)
			checkErr(t, i, audit.May(nil, "ann", p), api.ErrNil)
			check(t, i, askedTold(d, "", p), api.ErrName.Error())
			check(t, i, askedTold(nil, "ann", p), api.ErrNil.Error())
			if !reflect.DeepEqual(p, others[i]) {
				t.Errorf("%d is changed", i)
			}
		}
		check(t, "the store", storeTold(d), was)
	}
}

// P1: plans over another catalog than the one that is asked, with fewer tables, or other ones.
func TestOtherCatalogs(t *testing.T) {
	small := catalogOf("levels one; table t rows one (a text one); principal ann one;")
	wide := catalogOf("levels low, high; order low < high; table z rows high (a bool low, b int low); table y rows low (i int low, j text high, k int low) hide high when i = 1; principal ann low; principal zoe high;")
	stores := one(storeOf(small, "'x'; 'y'"), storeOf(wide, "true 1", "1 'x' 2; 2 'y' 3"), store.New(wide))
	for _, c := range ours() {
		stores = append(stores, ourStore(c))
	}
	for _, d := range stores {
		was := storeTold(d)
		for _, of := range ours() {
			for _, x := range asked() {
				p := planOf(of, x.query)
				for _, who := range []string{"ann", "zoe", "nobody"} {
					may := audit.May(d.Catalog(), who, p)
					rows, err := audit.Ask(d, who, p)
					if !isErr(err) || err != api.OK && len(rows) > 0 || may != api.OK && err != may {
						t.Errorf("%s: %v: %v, %s", x.query, may, err, rowsTold(rows))
					}
				}
			}
		}
		check(t, "the store", storeTold(d), was)
	}
}

// P1: plans that are many deep, and wide.
func TestDeepPlans(t *testing.T) {
	c := ours()[0]
	d := ourStore(c)
	low, high := planOf(c, "select k as x from h visible"), planOf(c, "select k as x from h")
	node := api.Node{Kind: api.ExBool, N: 1}
	for range 20000 {
		low, high = api.Plan{Kind: api.PlDistinct, Kids: one(low), Width: 1}, api.Plan{Kind: api.PlLimit, N: 9, Kids: one(high), Width: 1}
		node = api.Node{Kind: api.ExNot, Kids: one(node)}
	}
	check(t, "deep", askedTold(d, "ann", low), "2; 1; 4")
	check(t, "deep", askedTold(d, "ann", high), api.ErrFlow.Error())
	check(t, "deep", askedTold(d, "zoe", high), "1; 2; 1; 3; 4; 5")
	check(t, "a deep node", askedTold(d, "ann", api.Plan{Kind: api.PlSelect, Kids: one(planOf(c, "select i as x from t")), E: one(node), Width: 1}), "1; 2")
	wide := api.Plan{Kind: api.PlProject, Kids: one(planOf(c, "select x as x from t limit 1")), E: numbered(5000, func(i int) api.Node { return api.Node{Kind: api.ExInt, N: i} }), Width: 5000}
	checkErr(t, "wide", audit.May(c, "ann", wide), api.OK)
	wide.E[4999] = api.Node{Kind: api.ExCol}
	checkErr(t, "the last is not seen", audit.May(c, "ann", wide), api.ErrFlow)
	checkErr(t, "the last is seen", audit.May(c, "bob", wide), api.OK)
}

// Of lists without members nil and empty are one.
func TestEmptyOrNil(t *testing.T) {
	c := ours()[0]
	d := ourStore(c)
	p := api.Plan{Kind: api.PlProject, E: []api.Node{{Kind: api.ExCol, Kids: []api.Node{}, Plans: []api.Plan{}}}, Keys: []int{}, Aggs: []api.Gather{}, Desc: []bool{}, Width: 1,
		Kids: []api.Plan{{Kind: api.PlScan, Width: 4, Kids: []api.Plan{}, E: []api.Node{}, Keys: []int{}, Aggs: []api.Gather{}, Desc: []bool{}}}}
	check(t, "empty", askedTold(d, "ann", p), askedTold(d, "ann", planOf(c, "select i as x from t")))
}

// A plan that is made simpler is answered as it was, where both may be asked.
func TestNormed(t *testing.T) {
	for _, c := range ours() {
		d := ourStore(c)
		for _, x := range asked() {
			p := planOf(c, x.query)
			simple := algebra.Norm(p)
			for _, who := range []string{"ann", "bob", "cyd", "zoe"} {
				if audit.May(c, who, p) == api.OK && audit.May(c, who, simple) == api.OK {
					check(t, x.query, askedTold(d, who, simple), askedTold(d, who, p))
				}
			}
		}
	}
}
