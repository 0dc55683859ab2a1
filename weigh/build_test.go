package weigh_test

import (
	"fmt"
	"testing"

	"cordon/api"
	"cordon/weigh"
)

const (
	most     = api.MaxCost
	greatest = 1<<63 - 1
	least    = -greatest - 1
)

func list[T any](l ...T) []T { return l }

// numbered are n things, each made of its number.
func numbered[T any](n int, make func(i int) T) []T {
	var out []T
	for i := range n {
		out = append(out, make(i))
	}
	return out
}

// counted are tables of which each has as many rows as its place tells, up to MaxRows.
func counted() []int { return numbered(api.MaxRows+1, func(i int) int { return i }) }

// Plans and nodes, put together by hand.

func one() api.Plan { return api.Plan{Kind: api.PlOne} }

func scan(table int) api.Plan { return api.Plan{Kind: api.PlScan, N: table} }

func over(kind int, kids ...api.Plan) api.Plan { return api.Plan{Kind: kind, Kids: kids} }

func with(p api.Plan, e ...api.Node) api.Plan {
	p.E = append(p.E, e...)
	return p
}

func asks(plans ...api.Plan) api.Node { return api.Node{Kind: api.ExExists, Plans: plans} }

func within(kids ...api.Node) api.Node { return api.Node{Kind: api.ExBin, S: "and", Kids: kids} }

func gathers(p api.Plan, nodes ...api.Node) api.Plan {
	for _, n := range nodes {
		p.Aggs = append(p.Aggs, api.Gather{Fn: "count", E: list(n)})
	}
	return p
}

func limit(n int, kid api.Plan) api.Plan {
	return api.Plan{Kind: api.PlLimit, N: n, Kids: list(kid)}
}

func keyed(p api.Plan, keys ...int) api.Plan {
	p.Keys = keys
	return p
}

// at is a cost as it is written in tests: its steps, and its rows.
type at struct{ steps, rows int }

func (a at) String() string { return fmt.Sprintf("%d steps, %d rows", a.steps, a.rows) }

// weighed is a plan's cost; one that is no cost has steps below 0.
func weighed(sizes []int, p api.Plan) at {
	c := weigh.Plan(sizes, p)
	a := at{int(real(c)), int(imag(c))}
	if complex(float64(a.steps), float64(a.rows)) != c || a.steps < 0 || a.steps > most || a.rows < 0 || a.rows > most {
		return at{-1, -1}
	}
	return a
}

type testCase struct {
	name string
	plan api.Plan
	want at
}

func holds(t *testing.T, sizes []int, cases ...testCase) {
	t.Helper()
	for _, c := range cases {
		if got := weighed(sizes, c.plan); got != c.want {
			t.Errorf("%s: %v, not %v", c.name, got, c.want)
		}
	}
}

// The kinds, by how many kids they have.
var (
	leaves = list(api.PlOne, api.PlScan, api.PlVisible)
	single = list(api.PlSelect, api.PlProject, api.PlGroup, api.PlDistinct, api.PlOrder, api.PlLimit)
	double = list(api.PlJoin, api.PlLeft, api.PlUnionAll, api.PlUnion, api.PlExcept, api.PlIntersect)
)

// stepping is a plan over counted tables that has just so many steps, and few rows: of 64 rows, each with a plan of a 64th of these, and what is left over.
func stepping(steps int) api.Plan {
	switch {
	case steps <= api.MaxRows:
		return scan(steps)
	case steps < 130:
		return with(over(api.PlProject, one()), asks(scan(50), scan(steps-52)))
	}
	rest := steps - 130
	many := with(over(api.PlSelect, scan(64)), asks(stepping(rest/64)))
	return with(over(api.PlProject, one()), asks(many), asks(scan(rest%64)))
}

// joined are tables, each joined to those ahead of it.
func joined(tables ...int) api.Plan {
	p := scan(tables[0])
	for _, n := range tables[1:] {
		p = over(api.PlJoin, p, scan(n))
	}
	return p
}
