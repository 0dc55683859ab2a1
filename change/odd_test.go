package change_test

import (
	"math"
	"testing"

	"cordon/api"
	"cordon/change"
	"cordon/store"
)

// oddMaker makes nodes and plans of anything.
type oddMaker struct{ *maker }

func (m oddMaker) number() int {
	return pick(m.maker, 0, 0, 1, 1, 2, 3, 4, 41, -1, math.MaxInt, math.MinInt)
}

func (m oddMaker) nodes(most, deep int) []api.Node {
	return numbered(m.Intn(most+1), func(int) api.Node { return m.node(deep) })
}

func (m oddMaker) node(deep int) api.Node {
	n := api.Node{Kind: m.Intn(18) - 1, N: m.number(), S: pick(m.maker, "+", "/", "and", "=", "<", "||", "", "i", "s", "?")}
	if m.often(50) {
		n.Kind = pick(m.maker, api.ExBool, api.ExInt, api.ExCol, api.ExVar, api.ExCase)
	}
	if deep > 0 {
		n.Kids = m.nodes(3, deep-1)
		n.Plans = numbered(m.Intn(2), func(int) api.Plan { return m.plan(deep - 1) })
	}
	return n
}

func (m oddMaker) plan(deep int) api.Plan {
	p := api.Plan{Kind: m.Intn(18) - 1, N: m.number(), Width: m.number(), E: m.nodes(2, deep-1)}
	if m.often(50) {
		p.Kind = pick(m.maker, api.PlScan, api.PlProject, api.PlSelect, api.PlUnionAll)
	}
	if deep > 0 {
		p.Kids = numbered(m.Intn(3), func(int) api.Plan { return m.plan(deep - 1) })
	}
	p.Keys = numbered(m.Intn(2), func(int) int { return m.number() })
	p.Aggs = numbered(m.Intn(2), func(int) api.Gather {
		return api.Gather{Fn: pick(m.maker, "count", "sum", "avg"), E: m.nodes(1, deep-1)}
	})
	return p
}

// value is one of which nothing is right, or something.
func (m oddMaker) value() api.Value {
	return api.Value{Type: m.Intn(6) - 1, N: m.number(), S: pick(m.maker, "", "a", "\x00")}
}

// P1, P2, of calls that are handed anything: the second way tells the same, as it asks the engine, too.
func TestOddMade(t *testing.T) {
	ends := map[string]int{}
	for seed := range 4000 {
		m := oddMaker{makerOf(t, 80000+seed)}
		c := call{
			kind: pick(m.maker, api.StInsert, api.StInsertQ, api.StUpdate, api.StDelete), table: m.Intn(len(m.tables)), nodes: m.nodes(3, 2), plan: m.plan(3), where: m.nodes(2, 2),
			vars: one(api.Bound{Name: "i", Value: m.value()}, api.Bound{Name: "s", Value: m.value()}),
		}
		if m.often(10) {
			c.table = m.number()
		}
		for range len(c.nodes) {
			c.cols = append(c.cols, pick(m.maker, m.number(), m.Intn(4)))
		}
		ends[watched(t, m.db(), c)]++
		if t.Failed() {
			t.Fatalf("seed %d: %+v", seed, c)
		}
	}
	enough(t, ends, 50, "0", "1", "2", "ErrArg", "ErrShape")
}

// Of more than one node in where, which no statement has, the first is asked alone.
func TestOddWhere(t *testing.T) {
	for _, c := range []struct {
		where []api.Node
		want  string
	}{
		{one(constant(true), constant(false)), "3"}, {one(constant(false), constant(true)), "0"}, {one(constant(true), division()), "3"}, {one(division(), constant(true)), "ErrZero"},
	} {
		check(t, c.where, watched(t, ours(), call{kind: api.StDelete, table: tableW, where: c.where}), c.want)
		check(t, c.where, watched(t, ours(), call{kind: api.StUpdate, table: tableW, where: c.where, cols: one(0), nodes: one(constant(1))}), c.want)
	}
}

// As deep as may be: 2^16 parts within one another.
func TestDeep(t *testing.T) {
	const deep = 1<<16 - 16
	n, not := constant(1), constant(true)
	p := api.Plan{Kind: api.PlScan, N: tableW, Width: 3}
	for range deep {
		n = api.Node{Kind: api.ExBin, S: "+", Kids: one(n, constant(1))}
		not = node(api.ExNot, not)
		p = api.Plan{Kind: api.PlDistinct, Kids: one(p), Width: 3}
	}
	d := ours()
	check(t, "insert", answerOf(0, change.Insert(d, nil, tableE, one(n, constant(1)))), "0")
	check(t, "insert rows", answerOf(0, change.InsertRows(d, nil, tableW, p)), "0")
	check(t, "update", answerOf(change.Update(d, nil, tableW, one(2), one(n), one(not))), "6")
	check(t, "delete", answerOf(change.Delete(d, nil, tableQ, one(not))), "3")
	check(t, "e", told(d.Rows(tableE)), "(65521 1)")
	check(t, "w", told(d.Rows(tableW)), "(1 2 65521) (3 0 65521) (5 1 65521) (1 2 65521) (3 0 65521) (5 1 65521)")
	check(t, "q", told(d.Rows(tableQ)), "none")
}

// A table as great as may be, changed by queries that look at as many pairs of rows as may be: each is done a few times, not for every row.
func TestMuch(t *testing.T) {
	c := catalogOf("levels low; table t rows low (a int low, b int low, c int low, d int low) key (a);")
	d := store.New(c)
	for i := range api.MaxRows {
		check(t, i, answerOf(0, change.Insert(d, nil, 0, one(constant(i), constant(0), constant(0), constant(0)))), "0")
	}
	check(t, "one too many", answerOf(0, change.Insert(d, nil, 0, one(constant(999), constant(0), constant(0), constant(0)))), "ErrRows")
	scan := api.Plan{Kind: api.PlScan, Width: 4}
	join := scan
	for range 9 { // so that a row has as many values as may be
		equal := api.Node{Kind: api.ExBin, S: "=", Kids: one(at(0), at(join.Width))}
		join = api.Plan{Kind: api.PlJoin, Kids: one(join, scan), E: one(equal), Width: join.Width + 4}
	}
	counted := api.Node{Kind: api.ExScalar, Plans: one(api.Plan{Kind: api.PlGroup, Kids: one(join), Aggs: one(api.Gather{Fn: "count"}), Width: 1})}
	is := api.Node{Kind: api.ExBin, S: "<", Kids: one(at(0), counted)}
	check(t, "update", answerOf(change.Update(d, nil, 0, one(1, 2, 3), one(counted, counted, counted), one(is))), "100")
	for _, r := range d.Rows(0) {
		if r[1] != val(100) || r[2] != val(100) || r[3] != val(100) {
			t.Fatal(told(one(r)))
		}
	}
	check(t, "delete", answerOf(change.Delete(d, nil, 0, one(is))), "100")
	check(t, "rows", told(d.Rows(0)), "none")
}
