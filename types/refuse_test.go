package types_test

import (
	"testing"

	"cordon/api"
	"cordon/types"
)

// whole is a query with something of all, in which nothing is wrong.
const whole = "select t.i1 as x, count(*) as n, max(v.i2) + 1 as m from t join u on t.i1 = u.i1 left join (select b2 as b2, i2 as i2 from v) as v on v.b2 and t.b1" +
	" where t.b1 or s1 = s2 group by t.i1, s2 having count(*) > 1 and s2 is null order by x, n + m desc limit 3"

// fault makes one thing of that wrong; rank is its place in the chapter's order, slot what it takes the place of, so that two with one slot can't be made at once.
type fault struct {
	what, slot string
	rank       int
	want       string
	do         func(q *api.Query)
}

const (
	ofFirst = iota
	ofSecond
	ofNames
	ofWidth
	ofOn
	ofThird
	ofThirdNames
	ofThirdWidth
	ofThirdOn
	ofWhere
	ofGroup
	ofSecondGroup
	ofItems
	ofItem
	ofSecondItem
	ofThirdItem
	ofHaving
	ofKey
	ofSecondKey
)

// inner is the join that stands first in the other one.
func inner(q *api.Query) *api.From { return &q.From[0].Kids[0] }

// source makes something else stand as what rows come from, with its name as it is.
func source(at func(q *api.Query) *api.From, f api.From) func(q *api.Query) {
	return func(q *api.Query) {
		as := at(q).As
		*at(q) = f
		at(q).As = as
	}
}

func sourceFaults() []fault {
	first := func(q *api.Query) *api.From { return &inner(q).Kids[0] }
	second := func(q *api.Query) *api.From { return &inner(q).Kids[1] }
	third := func(q *api.Query) *api.From { return &q.From[0].Kids[1] }
	out := []fault{
		{"t under the name u", "first", ofNames, "ErrName", func(q *api.Query) { first(q).As = "u" }},
		{"u under the name t", "second's name", ofNames, "ErrName", func(q *api.Query) { second(q).As = "t" }},
		{"first is wide", "first", ofWidth, "ErrMany", source(first, table("wide", ""))},
		{"first has one too many", "first", ofWidth, "ErrMany", source(first, table("most", ""))},
		{"second is wide", "second", ofWidth, "ErrMany", source(second, table("wide", ""))},
		{"third under the name t", "third's name", ofThirdNames, "ErrName", func(q *api.Query) { third(q).As = "t" }},
		{"third under the name u", "third's name", ofThirdNames, "ErrName", func(q *api.Query) { third(q).As = "u" }},
		{"third is wide", "third", ofThirdWidth, "ErrMany", source(third, table("wide", ""))},
	}
	for _, s := range []struct {
		slot string
		rank int
		at   func(q *api.Query) *api.From
	}{{"first", ofFirst, first}, {"second", ofSecond, second}, {"third", ofThird, third}} {
		out = append(out, fault{s.slot + " is no table", s.slot, s.rank, "ErrName", source(s.at, table("nosuch", ""))})
		for _, f := range flaws() {
			out = append(out, fault{s.slot + " is a query with " + f.want, s.slot, s.rank, f.want, source(s.at, fromQuery(sel(f.x), ""))})
		}
	}
	return out
}

// exprFaults put what has an error in the place of an expression, alone, and as the second part of something that has no type.
func exprFaults(slot string, rank int, at func(q *api.Query) *api.Expr, all ...flaw) []fault {
	var out []fault
	for _, f := range all {
		out = append(out,
			fault{slot + " with " + f.want, slot, rank, f.want, func(q *api.Query) { *at(q) = f.x }},
			fault{slot + ", a part of it with " + f.want, slot, rank, f.want, func(q *api.Query) { *at(q) = bin(yes(), "+", f.x) }})
	}
	return out
}

// logicalFaults are what is not logical in the place of an expression.
func logicalFaults(slot string, rank int, at func(q *api.Query) *api.Expr) []fault {
	var out []fault
	for _, x := range []api.Expr{num(1), text("x"), neg(null())} {
		out = append(out, fault{slot + " is not logical", slot, rank, "ErrType", func(q *api.Query) { *at(q) = x }})
	}
	return out
}

// groupFlaws are wrong where there are groups.
func groupFlaws() []flaw {
	return append(flaws(),
		flaw{colOf("t", "b1"), "ErrShape"}, flaw{col("s1"), "ErrShape"}, flaw{col("i1"), "ErrName"}, flaw{agg("sum", agg("count")), "ErrShape"},
		flaw{agg("sum", col("s2")), "ErrType"}, flaw{agg("max", col("nosuch")), "ErrName"}, flaw{bin(col("s2"), "+", num(1)), "ErrType"})
}

func rowFaults() []fault {
	var out []fault
	for _, p := range []struct {
		slot string
		rank int
		at   func(q *api.Query) *api.Expr
		more flaw
	}{
		{"on", ofOn, func(q *api.Query) *api.Expr { return &inner(q).On[0] }, flaw{colOf("v", "b2"), "ErrName"}},
		{"third's on", ofThirdOn, func(q *api.Query) *api.Expr { return &q.From[0].On[0] }, flaw{col("i1"), "ErrName"}},
		{"where", ofWhere, func(q *api.Query) *api.Expr { return &q.Where[0] }, flaw{agg("max", colOf("t", "b1")), "ErrShape"}},
	} {
		out = append(out, exprFaults(p.slot, p.rank, p.at, append(rowFlaws(), p.more)...)...)
		out = append(out, logicalFaults(p.slot, p.rank, p.at)...)
	}
	for i, slot := range []string{"group", "second of group"} {
		for _, f := range []flaw{
			{col("nosuch"), "ErrName"}, {col("i1"), "ErrName"}, {colOf("v", "i1"), "ErrName"},
			{num(1), "ErrShape"}, {neg(col("nosuch")), "ErrShape"}, {agg("count"), "ErrShape"}, {variable("i"), "ErrShape"},
		} {
			out = append(out, fault{slot + " with " + f.want, slot, ofGroup + i, f.want, func(q *api.Query) { q.Group[i] = f.x }})
		}
	}
	return out
}

func itemFaults() []fault {
	out := []fault{{"too many items", "", ofItems, "ErrMany", func(q *api.Query) {
		q.Items = append(q.Items, numbered(api.MaxCols, func(int) api.Item { return api.Item{E: null(), Name: "more"} })...)
	}}}
	for i, slot := range []string{"item", "second item", "third item"} {
		out = append(out, exprFaults(slot, ofItem+i, func(q *api.Query) *api.Expr { return &q.Items[i].E }, groupFlaws()...)...)
	}
	having := func(q *api.Query) *api.Expr { return &q.Having[0] }
	out = append(out, exprFaults("having", ofHaving, having, groupFlaws()...)...)
	out = append(out, logicalFaults("having", ofHaving, having)...)
	for i, slot := range []string{"key", "second key"} {
		all := append(rowFlaws(), flaw{colOf("t", "x"), "ErrName"}, flaw{col("s2"), "ErrName"}, flaw{agg("max", col("x")), "ErrShape"})
		out = append(out, exprFaults(slot, ofKey+i, func(q *api.Query) *api.Expr { return &q.Order[i].E }, all...)...)
	}
	return out
}

func faults() []fault {
	return append(append(sourceFaults(), rowFaults()...), itemFaults()...)
}

// P9.2: each error, alone.
func TestEachFault(t *testing.T) {
	q := readQuery(t, whole)
	queryIs(t, "no fault", q, "x int, n int, m int")
	for _, f := range faults() {
		queryIs(t, f.what, with(q, f.do), f.want)
	}
}

// P9.2: of any two at once the one that comes first in the chapter's order is told.
func TestTwoFaults(t *testing.T) {
	q, w := readQuery(t, whole), ours()
	all := faults()
	for i, f := range all {
		for _, g := range all[i+1:] {
			if f.slot != "" && f.slot == g.slot {
				continue
			}
			first := f
			if g.rank < f.rank {
				first = g
			}
			both := with(q, func(q *api.Query) {
				f.do(q)
				g.do(q)
			})
			if got := colsTold(types.Query(w.c, w.vars, both)); got != first.want {
				t.Errorf("%s, %s: %s, want %s", f.what, g.what, got, first.want)
			}
		}
	}
}

// Two queries with a fault each: the first one's is told, whatever else is wrong with both together.
func TestFaultsOfTwoQueries(t *testing.T) {
	q := readQuery(t, whole)
	all := faults()
	for i, f := range all {
		g := all[(7*i+3)%len(all)]
		queryIs(t, f.what+" first, "+g.what, put(api.QuUnion, with(q, f.do), with(q, g.do)), f.want)
		queryIs(t, f.what+" first", put(api.QuExcept, with(q, f.do), sel(num(1))), f.want)
		queryIs(t, f.what+" second", put(api.QuIntersect, sel(num(1)), with(q, f.do)), f.want)
		exprIs(t, f.what+" in an expression", bin(text("x"), "+", scalar(with(q, f.do))), f.want)
		exprIs(t, f.what+" behind a kid", in(0, num(1), with(q, f.do)), f.want)
		exprIs(t, f.what+" behind a wrong kid", in(0, neg(text("x")), with(q, f.do)), "ErrType")
	}
}
