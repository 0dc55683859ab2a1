package flow_test

import (
	"math"
	"slices"
	"testing"

	"cordon/api"
	"cordon/flow"
	"cordon/schema"
)

// P1, of programs and plans that layers 10 and 15 do not make: something is answered, and nothing panics. What is not there is null, at Bottom, and raises nothing; nothing may flow to it.

func programFrom(codes ...api.Code) api.Program { return api.Program{Procs: codes} }

// ownCode is a script with a variable of each level that does some statements.
func ownCode(ops ...api.Op) api.Code {
	first := api.Op{Kind: api.StFor, Names: one("l", "va", "vb", "vh"), Plan: one(above(api.PlProject, scan(0), col(0), col(1), col(2), col(3)))}
	return api.Code{Vars: one(api.Var{Name: "l"}, api.Var{Name: "va"}, api.Var{Name: "vb"}, api.Var{Name: "vh"}, api.Var{Name: "x"}), Body: append(one(first), ops...)}
}

// oddTold is the verdict of an odd program, its Diags told as Whys, with their places.
func oddTold(c *schema.Catalog, p api.Program) string {
	v := flow.Check(c, p)
	diags := v.Diags
	v.Diags = nil
	out := verdictTold(c, "", p, v)
	for _, d := range diags {
		out += " " + whys[d.Why]
	}
	return out
}

func TestOddStatements(t *testing.T) {
	va, vb, raising := variable("va"), variable("vb"), node(api.ExNeg, variable("va"))
	for _, c := range benchOf("table n rows low (x int low, y int null a) key (x); table h rows low (x int null low) hide b when x = 1;") {
		for _, w := range []struct {
			op   api.Op
			want string
		}{
			{api.Op{}, ""}, {api.Op{Kind: -1}, ""}, {api.Op{Kind: 18}, ""}, {api.Op{Kind: math.MaxInt}, ""}, {api.Op{Kind: math.MinInt, E: one(va)}, ""},
			{api.Op{Kind: api.StSet}, ""}, {api.Op{Kind: api.StSet, Names: one("x")}, ""}, {api.Op{Kind: api.StSet, E: one(va)}, ""}, {api.Op{Kind: api.StSet, Names: one("nosuch"), E: one(va)}, ""}, {api.Op{Kind: api.StSet, Names: one("x", "l"), E: one(va, vb)}, "[x high]"}, {api.Op{Kind: api.StSet, Names: one("x"), E: one(variable("nosuch"))}, ""}, {api.Op{Kind: api.StSet, Names: one("x"), E: one(col(3))}, ""},
			{api.Op{Kind: api.StInput}, ""}, {api.Op{Kind: api.StInput, Names: one("nosuch")}, ""},
			{api.Op{Kind: api.StPrint}, ""}, {api.Op{Kind: api.StPrint, N: -1}, " print"}, {api.Op{Kind: api.StPrint, N: 4, E: one(number(1))}, " print"}, {api.Op{Kind: api.StPrint, N: math.MaxInt, E: one(va)}, " print"}, {api.Op{Kind: api.StPrint, N: math.MinInt}, " print"},
			{api.Op{Kind: api.StIf}, ""}, {api.Op{Kind: api.StWhile}, ""}, {api.Op{Kind: api.StFor}, ""}, {api.Op{Kind: api.StTry}, ""},
			{api.Op{Kind: api.StFor, Names: one("x", "l")}, ""}, {api.Op{Kind: api.StFor, Names: one("x"), Plan: one(api.Plan{})}, ""}, {api.Op{Kind: api.StFor, Names: one("nosuch", "x"), Plan: one(scan(0), scan(1))}, "[x a]"}, {api.Op{Kind: api.StFor, Names: one("x"), Plan: one(scan(99))}, ""}, {api.Op{Kind: api.StFor, Names: one("x", "l", "l"), Plan: one(above(api.PlProject, scan(0), col(2), col(77)))}, "[x b]"},
			{api.Op{Kind: api.StCall, N: -1}, ""}, {api.Op{Kind: api.StCall, N: 2, E: one(raising)}, "[raises a]"}, {api.Op{Kind: api.StCall, N: math.MaxInt}, ""}, {api.Op{Kind: api.StCall, N: math.MinInt}, ""},
			{api.Op{Kind: api.StCall}, ""}, {api.Op{Kind: api.StCall, E: one(va)}, "p[n a]"}, {api.Op{Kind: api.StCall, E: one(va, vb, va, vb)}, "p[n a, m b]"}, {api.Op{Kind: api.StCall, E: one(raising)}, "p[at a, n a, m a]; [raises a]"},
			{api.Op{Kind: api.StInsert, N: -1}, " rows"}, {api.Op{Kind: api.StInsert, N: 3, E: one(va)}, " rows column"}, {api.Op{Kind: api.StInsert, N: math.MaxInt, E: one(raising)}, "[raises a] rows column"}, {api.Op{Kind: api.StInsertQ, N: math.MinInt, Plan: one(scan(0))}, " rows column column column column column column column column"},
			{api.Op{Kind: api.StInsert, N: 1}, "[raises low]"}, {api.Op{Kind: api.StInsert, N: 1, E: one(number(1))}, "[raises low]"}, {api.Op{Kind: api.StInsert, N: 1, E: one(number(1), number(1), va)}, "[raises low] column"}, {api.Op{Kind: api.StInsert, N: 2, E: one(number(1), number(2), number(3))}, " column column"}, {api.Op{Kind: api.StInsert, N: 2, E: one(col(0))}, ""}, {api.Op{Kind: api.StInsert, N: 1, E: one(col(0), number(1))}, "[raises low]"},
			{api.Op{Kind: api.StInsertQ, N: 1}, "[raises low]"}, {api.Op{Kind: api.StInsertQ, N: 2}, ""}, {api.Op{Kind: api.StInsertQ, N: 2, Plan: one(api.Plan{Kind: 99, Kids: one(scan(2))})}, " rows"}, {api.Op{Kind: api.StInsertQ, N: 2, Plan: one(scan(1))}, " column"}, {api.Op{Kind: api.StInsertQ, N: 1, Plan: one(api.Plan{Kind: api.PlProject, E: one(col(4))})}, "[raises low]"},
			{api.Op{Kind: api.StUpdate, N: -1}, ""}, {api.Op{Kind: api.StUpdate, N: 9, Cols: one(0), E: one(number(1))}, " column"}, {api.Op{Kind: api.StUpdate, N: 1, Cols: one(-1, 2, math.MaxInt, math.MinInt), E: one(va, va, va, va)}, " column column column column"}, {api.Op{Kind: api.StUpdate, N: 1, Cols: one(1)}, ""}, {api.Op{Kind: api.StUpdate, N: 1, E: one(raising, va)}, "[raises a]"}, {api.Op{Kind: api.StUpdate, N: 1, Cols: one(1, 1), E: one(va, vb)}, " column"}, {api.Op{Kind: api.StUpdate, N: 1, Cols: one(0), E: one(col(9))}, "[raises low]"}, {api.Op{Kind: api.StUpdate, N: 1, Cols: one(1), Where: one(va, vb)}, " column"},
			{api.Op{Kind: api.StDelete, N: -1}, " rows"}, {api.Op{Kind: api.StDelete, N: 3}, " rows"}, {api.Op{Kind: api.StDelete, N: math.MaxInt, Where: one(raising)}, "[raises a] rows"}, {api.Op{Kind: api.StDelete, N: 1, Where: one(col(0), col(1))}, " rows"}, {api.Op{Kind: api.StDelete, N: 1, Where: one(col(7))}, ""},
			{api.Op{Kind: api.StBegin, N: 77, E: one(va)}, ""}, {api.Op{Kind: api.StSkip, N: -4}, ""}, {api.Op{Kind: api.StRaise, N: 5, E: one(va)}, "[raises low]"},
			{api.Op{Kind: api.StIf, E: one(va, vb), Body: one(api.Op{Kind: api.StSet, Names: one("x")})}, "[x high]"},
		} {
			p := programFrom(api.Code{Name: "p", Params: one(api.Var{Name: "n"}, api.Var{Name: "m"}), Vars: one(api.Var{Name: "o"})}, ownCode(w.op))
			check(t, w.op, oddTold(c, p), w.want)
			standsAlone(t, c, p)
		}
	}
}

func TestOddPrograms(t *testing.T) {
	for _, c := range benchOf("") {
		call := func(n int, e ...api.Node) api.Op { return api.Op{Kind: api.StCall, N: n, E: e} }
		for _, w := range []struct {
			p    api.Program
			want string
		}{
			{api.Program{}, ""}, {programFrom(api.Code{}), ""}, {programFrom(api.Code{}, api.Code{}, api.Code{}), ""},
			// the script itself is called
			{programFrom(ownCode(api.Op{Kind: api.StIf, E: one(variable("va")), Body: one(call(0))})), "[at a, l a, vb high]; loops a"},
			// variables of one name: the first is the one that is looked up, a parameter is handed in by its place
			{programFrom(api.Code{Name: "p", Params: one(api.Var{Name: "n"}, api.Var{Name: "n"}), Vars: one(api.Var{Name: "n"}), Body: one(api.Op{Kind: api.StSet, Names: one("n"), E: one(variable("n"))})}, ownCode(call(0, variable("va"), variable("vb")))), "p[n a, n b]"},
			{programFrom(api.Code{Name: "p", Params: one(api.Var{Name: ""})}, ownCode(call(0, variable("va")), api.Op{Kind: api.StSet, E: one(variable("va"))})), "p[ a]"},
		} {
			check(t, w.p, oddTold(c, w.p), w.want)
			standsAlone(t, c, w.p)
		}
	}
}

func TestOddNulls(t *testing.T) {
	c := benchOf("table n rows low (x int low, y int null a);")[2]
	never, always := number(1), node(api.ExNull)
	for _, w := range []struct {
		n    api.Node
		want string
	}{
		{api.Node{}, "1"}, {node(-1, never), "1"}, {node(api.ExAgg, never), "1"}, {node(16), "1"}, {node(math.MaxInt), "1"}, {node(math.MinInt), "1"},
		{col(-1), "1"}, {col(0), "0"}, {col(1), "1"}, {col(2), "1"}, {col(math.MaxInt), "1"}, {col(math.MinInt), "1"},
		{node(api.ExNeg), "1"}, {node(api.ExNot), "1"}, {node(api.ExBin), "1"}, {node(api.ExBin, never), "1"}, {node(api.ExBin, never, never), "0"}, {node(api.ExIs), "0"}, {node(api.ExExists), "0"},
		{node(api.ExCase), "1"}, {node(api.ExCase, never, never), "1"}, {node(api.ExCase, always, never, never), "0"},
		{node(api.ExIn), "1"}, {node(api.ExIn, never), "1"}, {asking(api.ExIn, scan(1)), "1"}, {asking(api.ExIn, scan(1), never), "0"}, {asking(api.ExIn, scan(9), never), "1"}, {asking(api.ExIn, api.Plan{}, never), "1"}, {asking(api.ExIn, api.Plan{Kind: api.PlOne}, never), "1"}, {api.Node{Kind: api.ExScalar}, "1"},
	} {
		check(t, w.n, nullsTold(c, above(api.PlProject, scan(1), w.n)), w.want)
	}
	for _, w := range []struct {
		p    api.Plan
		want string
	}{
		{api.Plan{}, ""}, {api.Plan{Kind: -1}, ""}, {api.Plan{Kind: 16}, ""}, {above(99, scan(1)), "01"}, {scan(-1), ""}, {scan(2), ""}, {visible(math.MaxInt), ""}, {visible(math.MinInt), ""},
		{api.Plan{Kind: api.PlSelect}, ""}, {api.Plan{Kind: api.PlProject}, ""}, {api.Plan{Kind: api.PlProject, E: one(col(0), never)}, "10"}, {api.Plan{Kind: api.PlJoin}, ""}, {above(api.PlJoin, scan(1)), "01"}, {above(api.PlLeft, scan(1)), "01"}, {api.Plan{Kind: api.PlUnion}, ""}, {above(api.PlUnion, scan(1)), "11"}, {above(api.PlExcept, scan(1)), "01"},
		{pair(api.PlUnionAll, above(api.PlProject, scan(1), col(0), col(0), col(0)), scan(1)), "011"}, {pair(api.PlUnion, above(api.PlProject, scan(1), col(0)), scan(1)), "0"},
		{group(scan(1), one(-1, 0, 2, math.MaxInt, 1, math.MinInt), gather("count"), gather(""), gather("avg", never), gather("sum")), "1011110111"}, {api.Plan{Kind: api.PlGroup}, ""}, {api.Plan{Kind: api.PlGroup, Keys: one(0)}, "1"},
		{api.Plan{Kind: api.PlUnionAll, Kids: one(above(api.PlProject, scan(1), never), above(api.PlProject, scan(1), never), above(api.PlProject, scan(1), always))}, "0"},
		{api.Plan{Kind: api.PlOne, Kids: one(scan(1)), E: one(never)}, ""}, {api.Plan{Kind: api.PlScan, N: 1, Kids: one(scan(0))}, "01"},
	} {
		check(t, w.p, nullsTold(c, w.p), w.want)
		planStandsAlone(t, c, w.p)
	}
}

// As deep as may be: 2^16 parts within one another.
func TestDeep(t *testing.T) {
	const deep = 1<<16 - 8
	c := benchOf("")[1]
	va := variable("va")
	plan := above(api.PlProject, scan(0), col(0))
	for _, w := range []struct {
		around func(in api.Op) api.Op
		want   string
	}{
		{func(in api.Op) api.Op { return api.Op{Kind: api.StIf, E: one(va), Body: one(in)} }, "[x a, raises a] print"},
		{func(in api.Op) api.Op { return api.Op{Kind: api.StIf, E: one(va), Else: one(in)} }, "[x a, raises a] print"},
		{func(in api.Op) api.Op { return api.Op{Kind: api.StWhile, E: one(va), Body: one(in)} }, "[x a, raises a]; loops a print"},
		{func(in api.Op) api.Op { return api.Op{Kind: api.StWhile, Body: one(in)} }, "[raises low]"},
		{func(in api.Op) api.Op {
			return api.Op{Kind: api.StFor, Names: one("x"), Plan: one(plan), Body: one(in)}
		}, "[raises low]"},
		{func(in api.Op) api.Op {
			return api.Op{Kind: api.StTry, Body: one(api.Op{Kind: api.StRaise}), Else: one(in)}
		}, "[raises low]"},
		{func(in api.Op) api.Op { return api.Op{Kind: api.StTry, Body: one(in)} }, ""},
		{func(in api.Op) api.Op { return api.Op{Kind: 99, Body: one(in)} }, ""},
	} {
		in := api.Op{Kind: api.StIf, Body: one(api.Op{Kind: api.StSet, Names: one("x")}, api.Op{Kind: api.StPrint}, api.Op{Kind: api.StRaise})}
		for range deep {
			in = w.around(in)
		}
		check(t, "deep", oddTold(c, programFrom(ownCode(in))), w.want)
	}
	for kind, want := range map[int]string{api.PlSelect: "01", api.PlOrder: "01", api.PlDistinct: "01", api.PlLimit: "01", api.PlUnion: "01", api.PlExcept: "01", api.PlProject: "01", api.PlGroup: "01"} {
		p := above(api.PlProject, scan(0), col(0), node(api.ExNull))
		for range deep {
			switch kind {
			case api.PlUnion, api.PlExcept:
				p = pair(kind, p, above(api.PlProject, scan(0), col(0), col(0)))
			case api.PlGroup:
				p = group(p, one(0, 1))
			default:
				p = above(kind, p, col(0), col(1))
			}
		}
		check(t, kind, nullsTold(c, p), want)
	}
	n, not, either, in := col(0), col(0), col(0), col(0)
	for i := range deep {
		n, not, either = node(api.ExNeg, n), node(api.ExBin, number(1), not), node(api.ExCase, node(api.ExNull), number(1), either)
		if i%3 == 0 {
			in = asking(api.ExIn, above(api.PlProject, scan(0), in), number(1))
		}
	}
	check(t, "nodes", nullsTold(c, above(api.PlProject, scan(0), n, not, either, in)), "0000")
	p := programFrom(ownCode(api.Op{Kind: api.StSet, Names: one("x"), E: one(n)}, api.Op{Kind: api.StInsert, E: one(in, either)}))
	check(t, "nodes in statements", oddTold(c, p), "[raises low]")
}

// A great many statements beside one another, variables and procedures.
func TestWide(t *testing.T) {
	const wide = 1 << 16
	c := benchOf("")[2]
	ops := numbered(wide, func(i int) api.Op { return api.Op{Kind: api.StWhile, E: one(variable("va"))} })
	ops = append(ops, numbered(wide, func(i int) api.Op { return api.Op{Kind: api.StPrint, At: i, E: one(variable("va"))} })...)
	v := flow.Check(c, programFrom(ownCode(ops...)))
	if len(v.Diags) != wide || v.Diags[wide-1] != (api.Diag{At: wide - 1, Why: api.WhyPrint}) || nameOf(c, v.Loops) != "a" {
		t.Errorf("%d Diags, %s", len(v.Diags), nameOf(c, v.Loops))
	}
	codes := numbered(wide, func(i int) api.Code { return api.Code{Body: one(api.Op{Kind: api.StCall, N: i})} })
	codes = append(codes, ownCode(api.Op{Kind: api.StIf, E: one(variable("va")), Body: one(api.Op{Kind: api.StCall, N: wide - 1})}))
	v = flow.Check(c, programFrom(codes...))
	check(t, "procedures", nameOf(c, v.Entry[wide-1])+nameOf(c, v.Entry[0])+nameOf(c, v.Loops), "alowa")
	code := ownCode(api.Op{Kind: api.StSet, Names: one("last"), E: one(variable("vb"))})
	code.Vars = append(code.Vars, append(numbered(wide, func(int) api.Var { return api.Var{Name: "other"} }), api.Var{Name: "last"})...)
	v = flow.Check(c, programFrom(code))
	check(t, "variables", nameOf(c, v.Vars[0][len(code.Vars)-1])+nameOf(c, v.Vars[0][len(code.Vars)-2]), "blow")
}

// oddMaker makes programs of anything.
type oddMaker struct{ *maker }

func (m oddMaker) number() int {
	return pick(m.maker, 0, 0, 1, 1, 2, 3, 4, 7, 41, -1, math.MaxInt, math.MinInt, 1<<40)
}

func (m oddMaker) node(deep int) api.Node {
	n := api.Node{Kind: m.Intn(18) - 1, N: m.number(), S: pick(m.maker, "", "a", "b", "+", "||", "=", "?")}
	if deep > 0 {
		n.Kids = numbered(m.Intn(4), func(int) api.Node { return m.node(deep - 1) })
		n.Plans = numbered(m.Intn(2), func(int) api.Plan { return m.plan(deep - 1) })
	}
	return n
}

func (m oddMaker) nodes(deep int) []api.Node {
	return numbered(m.Intn(4), func(int) api.Node { return m.node(deep) })
}

func (m oddMaker) plan(deep int) api.Plan {
	p := api.Plan{Kind: m.Intn(18) - 1, N: m.number(), Width: m.number(), E: m.nodes(deep - 1)}
	if deep > 0 {
		p.Kids = numbered(m.Intn(4), func(int) api.Plan { return m.plan(deep - 1) })
	}
	p.Keys = numbered(m.Intn(3), func(int) int { return m.number() })
	p.Aggs = numbered(m.Intn(3), func(int) api.Gather {
		return api.Gather{Fn: pick(m.maker, "count", "sum", "min", "", "avg"), E: m.nodes(deep - 2)}
	})
	return p
}

func (m oddMaker) ops(deep int) []api.Op {
	return numbered(m.Intn(4), func(int) api.Op {
		op := api.Op{Kind: m.Intn(20) - 1, At: m.number(), N: m.number(), E: m.nodes(1), Where: m.nodes(0)}
		op.Names = numbered(m.Intn(3), func(int) string { return pick(m.maker, "", "a", "b", "c") })
		op.Cols = numbered(m.Intn(4), func(int) int { return m.number() })
		op.Plan = numbered(m.Intn(3), func(int) api.Plan { return m.plan(1) })
		if deep > 0 {
			op.Body, op.Else = m.ops(deep-1), m.ops(deep-1)
		}
		return op
	})
}

func (m oddMaker) program() api.Program {
	vars := func() []api.Var {
		return numbered(m.Intn(4), func(int) api.Var { return api.Var{Name: pick(m.maker, "", "a", "b", "c"), Type: m.number()} })
	}
	return api.Program{Procs: numbered(m.Intn(5), func(int) api.Code { return api.Code{Params: vars(), Vars: vars(), Body: m.ops(2)} })}
}

// P1, P2, rules 3 and 6, of what is made of anything: all that is told are levels, and as many as there are variables and procedures.
func TestOddMade(t *testing.T) {
	came := map[int]int{}
	for seed := range 700 {
		m := oddMaker{makerOf(200000 + seed)}
		p := m.program()
		v := standsAlone(t, m.c, p)
		l := m.c.Lattice()
		if slices.ContainsFunc(levelsOf(v), func(level int) bool { return !l.Leq(level, level) }) {
			t.Errorf("%+v: no level", v)
		}
		for i, code := range p.Procs {
			check(t, "variables", len(v.Vars[i]), len(code.Params)+len(code.Vars))
			if !v.Can[i] && v.Raise[i] != l.Bottom() {
				t.Errorf("%+v raises nothing, above Bottom", v)
			}
		}
		for _, d := range v.Diags {
			came[d.Why]++
		}
		planStandsAlone(t, m.c, m.plan(3))
		for _, nobody := range nobodies() {
			check(t, "without a catalog", len(flow.Check(nobody, p).Vars)+len(flow.Nulls(nobody, m.plan(2))), 0)
		}
		if t.Failed() {
			t.Fatalf("seed %d", seed)
		}
	}
	enough(t, came, 50, api.WhyPrint, api.WhyColumn, api.WhyRows)
}
