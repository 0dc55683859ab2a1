package derive_test

import (
	"math"
	"testing"

	"cordon/api"
	"cordon/derive"
	"cordon/flow"
	"cordon/schema"
)

// P1, of programs and plans that layers 10 and 15 do not make, and proofs of any shape: something is answered, and nothing panics. Make makes a proof just if layer 18 has no Diag, and that is taken.

// oddMade makes a proof of an odd program, and looks at it.
func oddMade(t *testing.T, c *schema.Catalog, p api.Program) (api.Proof, bool) {
	t.Helper()
	v := flow.Check(c, p)
	x, ok := derive.Make(c, p)
	if ok != (len(v.Diags) == 0) || ok && !derive.Verify(c, p, x) {
		t.Errorf("%+v: %v, %+v, where layer 18 says %+v", p, ok, x, v)
	}
	if ok && (!same(x.Vars, v.Vars) || !same(x.Entry, v.Entry) || !same(x.Raise, v.Raise) || !same(x.Can, v.Can)) {
		t.Errorf("%+v: %+v, where layer 18 says %+v", p, x, v)
	}
	return x, ok
}

func programFrom(codes ...api.Code) api.Program { return api.Program{Procs: codes} }

// ownCode is a script with a variable of each level that does some statements.
func ownCode(ops ...api.Op) api.Code {
	first := api.Op{Kind: api.StFor, Names: one("l", "va", "vb", "vh"), Plan: one(above(api.PlProject, scan(0), col(0), col(1), col(2), col(3)))}
	return api.Code{Vars: one(api.Var{Name: "l"}, api.Var{Name: "va"}, api.Var{Name: "vb"}, api.Var{Name: "vh"}, api.Var{Name: "x"}), Body: append(one(first), ops...)}
}

func TestOddStatements(t *testing.T) {
	va, vb, raising := variable("va"), variable("vb"), node(api.ExNeg, variable("va"))
	deep := one(api.Op{Kind: api.StSet, Names: one("x"), E: one(raising)}, api.Op{Kind: api.StRaise}, api.Op{Kind: api.StPrint})
	for _, c := range benchOf("table n rows low (x int low, y int null a) key (x); table h rows low (x int null low) hide b when x = 1;") {
		for _, w := range []struct {
			op   api.Op
			want bool
		}{
			{api.Op{}, true}, {api.Op{Kind: -1}, true}, {api.Op{Kind: 18}, true}, {api.Op{Kind: math.MaxInt}, true}, {api.Op{Kind: math.MinInt, E: one(va)}, true}, {api.Op{Kind: 99, E: one(raising)}, true},
			{api.Op{Kind: api.StSet}, true}, {api.Op{Kind: api.StSet, Names: one("x")}, true}, {api.Op{Kind: api.StSet, E: one(va)}, true}, {api.Op{Kind: api.StSet, Names: one("nosuch"), E: one(va)}, true}, {api.Op{Kind: api.StSet, Names: one("x", "l"), E: one(va, vb)}, true}, {api.Op{Kind: api.StSet, Names: one("x"), E: one(col(3))}, true},
			{api.Op{Kind: api.StInput}, true}, {api.Op{Kind: api.StInput, Names: one("nosuch")}, true}, {api.Op{Kind: api.StInput, Names: one("x"), E: one(raising)}, true},
			{api.Op{Kind: api.StPrint}, true}, {api.Op{Kind: api.StPrint, N: -1}, false}, {api.Op{Kind: api.StPrint, N: 4, E: one(number(1))}, false}, {api.Op{Kind: api.StPrint, N: math.MaxInt}, false}, {api.Op{Kind: api.StPrint, N: math.MinInt}, false}, {api.Op{Kind: api.StPrint, N: 1, E: one(va, vb)}, true}, {api.Op{Kind: api.StPrint, N: 2, E: one(va, vb)}, false},
			{api.Op{Kind: api.StIf}, true}, {api.Op{Kind: api.StWhile}, true}, {api.Op{Kind: api.StFor}, true}, {api.Op{Kind: api.StTry}, true}, {api.Op{Kind: api.StIf, E: one(va, vb), Body: deep[:2], Else: deep[:1]}, true}, {api.Op{Kind: api.StIf, Body: deep}, false},
			// blocks that are none of the statement's
			{api.Op{Kind: api.StWhile, E: one(va), Else: deep}, true}, {api.Op{Kind: api.StFor, Else: deep}, true}, {api.Op{Kind: api.StSet, Body: deep, Else: deep}, true}, {api.Op{Kind: api.StRaise, Body: deep}, true}, {api.Op{Kind: 77, Else: deep, Body: deep}, true}, {api.Op{Kind: api.StSkip, Body: one(api.Op{Kind: api.StIf, Body: deep})}, true},
			{api.Op{Kind: api.StFor, Names: one("x", "l")}, true}, {api.Op{Kind: api.StFor, Names: one("x"), Plan: one(api.Plan{})}, true}, {api.Op{Kind: api.StFor, Names: one("nosuch", "x"), Plan: one(scan(0), scan(1))}, true}, {api.Op{Kind: api.StFor, Names: one("x"), Plan: one(scan(99))}, true}, {api.Op{Kind: api.StFor, Names: one("x", "l", "l"), Plan: one(above(api.PlProject, scan(0), col(2), col(77)))}, true},
			{api.Op{Kind: api.StCall, N: -1}, true}, {api.Op{Kind: api.StCall, N: 2, E: one(raising)}, true}, {api.Op{Kind: api.StCall, N: math.MaxInt}, true}, {api.Op{Kind: api.StCall, N: math.MinInt}, true}, {api.Op{Kind: api.StCall}, true}, {api.Op{Kind: api.StCall, E: one(va)}, true}, {api.Op{Kind: api.StCall, E: one(va, vb, va, vb)}, true}, {api.Op{Kind: api.StCall, E: one(raising)}, true}, {api.Op{Kind: api.StCall, N: 1}, true},
			{api.Op{Kind: api.StInsert, N: -1}, false}, {api.Op{Kind: api.StInsert, N: 3, E: one(va)}, false}, {api.Op{Kind: api.StInsert, N: math.MaxInt}, false}, {api.Op{Kind: api.StInsertQ, N: math.MinInt, Plan: one(scan(0))}, false},
			{api.Op{Kind: api.StInsert, N: 1}, true}, {api.Op{Kind: api.StInsert, N: 1, E: one(number(1))}, true}, {api.Op{Kind: api.StInsert, N: 1, E: one(number(1), number(1), va)}, false}, {api.Op{Kind: api.StInsert, N: 2, E: one(col(0))}, true}, {api.Op{Kind: api.StInsert, N: 1, E: one(col(0), number(1))}, true},
			{api.Op{Kind: api.StInsertQ, N: 1}, true}, {api.Op{Kind: api.StInsertQ, N: 2}, true}, {api.Op{Kind: api.StInsertQ, N: 2, Plan: one(api.Plan{Kind: 99, Kids: one(scan(2))})}, false}, {api.Op{Kind: api.StInsertQ, N: 2, Plan: one(scan(1))}, false}, {api.Op{Kind: api.StInsertQ, N: 1, Plan: one(api.Plan{Kind: api.PlProject, E: one(col(4))})}, true},
			{api.Op{Kind: api.StUpdate, N: -1}, true}, {api.Op{Kind: api.StUpdate, N: 9, Cols: one(0), E: one(number(1))}, false}, {api.Op{Kind: api.StUpdate, N: 1, Cols: one(-1, 2, math.MaxInt), E: one(va, va, va)}, false}, {api.Op{Kind: api.StUpdate, N: 1, Cols: one(1)}, true}, {api.Op{Kind: api.StUpdate, N: 1, E: one(raising, va)}, true}, {api.Op{Kind: api.StUpdate, N: 1, Cols: one(1, 1), E: one(va, vb)}, false}, {api.Op{Kind: api.StUpdate, N: 1, Cols: one(0), E: one(col(9))}, true}, {api.Op{Kind: api.StUpdate, N: 1, Cols: one(1), Where: one(va, vb)}, false},
			{api.Op{Kind: api.StDelete, N: -1}, false}, {api.Op{Kind: api.StDelete, N: 3}, false}, {api.Op{Kind: api.StDelete, N: 1, Where: one(col(0), col(1))}, false}, {api.Op{Kind: api.StDelete, N: 1, Where: one(col(7))}, true},
			{api.Op{Kind: api.StBegin, N: 77, E: one(va)}, true}, {api.Op{Kind: api.StSkip, N: -4}, true}, {api.Op{Kind: api.StRaise, N: 5, E: one(va)}, true},
		} {
			p := programFrom(api.Code{Name: "p", Params: one(api.Var{Name: "n"}, api.Var{Name: "m"}), Vars: one(api.Var{Name: "o"})}, ownCode(w.op))
			_, ok := oddMade(t, c, p)
			check(t, w.op, ok, w.want)
			standsAlone(t, c, p)
		}
	}
}

func TestOddPrograms(t *testing.T) {
	call := func(n int, e ...api.Node) api.Op { return api.Op{Kind: api.StCall, N: n, E: e} }
	for _, c := range benchOf("") {
		for _, p := range []api.Program{
			{}, programFrom(api.Code{}), programFrom(api.Code{}, api.Code{}, api.Code{}),
			// the script itself is called
			programFrom(ownCode(api.Op{Kind: api.StIf, E: one(variable("va")), Body: one(call(0))})),
			// variables of one name: the first is the one that is looked up, a parameter is handed in by its place
			programFrom(api.Code{Name: "p", Params: one(api.Var{Name: "n"}, api.Var{Name: "n"}), Vars: one(api.Var{Name: "n"}), Body: one(api.Op{Kind: api.StSet, Names: one("n"), E: one(variable("n"))})}, ownCode(call(0, variable("va"), variable("vb")))),
			programFrom(api.Code{Name: "p", Params: one(api.Var{Name: ""})}, ownCode(call(0, variable("va")), api.Op{Kind: api.StSet, E: one(variable("va"))})),
		} {
			if _, ok := oddMade(t, c, p); !ok {
				t.Errorf("%+v: there is no proof", p)
			}
			standsAlone(t, c, p)
		}
		p := programFrom(api.Code{Name: "p", Params: one(api.Var{Name: "n"}, api.Var{Name: "n"})}, ownCode(call(0, variable("va"), variable("vb"))))
		x, _ := oddMade(t, c, p)
		x.Vars[0][1] = c.Lattice().Bottom()
		check(t, "the second of one name", derive.Verify(c, p, x), false)
		// an input with an expression
		p = programFrom(ownCode(api.Op{Kind: api.StInput, Names: one("x"), E: one(variable("va"))}))
		x, _ = oddMade(t, c, p)
		x.Vars[0][4] = c.Lattice().Bottom()
		check(t, "an expression of an input", derive.Verify(c, p, x), false)
		// rules of a block that is none of the statement's: they must be there, and be levels, but nothing is asked of them
		p = programFrom(ownCode(api.Op{Kind: api.StSkip, Body: one(api.Op{Kind: api.StRaise}), Else: one(api.Op{Kind: api.StPrint, N: -1})}))
		x, _ = oddMade(t, c, p)
		for _, rules := range one(x.Procs[0][1].Body, x.Procs[0][1].Else) {
			for level := range c.Lattice().Levels() {
				rules[0] = api.Rule{Pc: level, Raise: c.Lattice().Bottom(), Can: true}
				check(t, "a block that is none", derive.Verify(c, p, x), true)
			}
			for _, none := range one(-1, 4) {
				for _, r := range one(api.Rule{Pc: none}, api.Rule{Raise: none}) {
					rules[0] = r
					check(t, "a block that is none", derive.Verify(c, p, x), false)
				}
			}
			rules[0] = api.Rule{}
		}
		x.Procs[0][1].Else = nil
		check(t, "a block that is none", derive.Verify(c, p, x), false)
	}
}

// oddProof is a proof of any shape.
func (m *maker) oddProof() api.Proof {
	number := func(int) int { return pick(m, 0, 0, 1, 1, 2, 3, -1, 5, math.MaxInt, math.MinInt) }
	var rules func(deep int) []api.Rule
	rules = func(deep int) []api.Rule {
		return numbered(m.Intn(4), func(i int) api.Rule {
			r := api.Rule{Pc: number(i), Raise: number(i), Can: m.often(50)}
			if deep > 0 && m.often(50) {
				r.Body, r.Else = rules(deep-1), rules(deep-1)
			}
			return r
		})
	}
	n := m.Intn(4)
	length := func() int { return max(0, n+pick(m, 0, 0, 0, 0, 1, -1)) }
	return api.Proof{
		Vars: numbered(length(), func(int) []int { return numbered(m.Intn(4), number) }), Entry: numbered(length(), number), Raise: numbered(length(), number),
		Can: numbered(length(), func(int) bool { return m.often(50) }), Procs: numbered(length(), func(int) []api.Rule { return rules(2) }),
	}
}

// oddMaker makes programs of anything.
type oddMaker struct{ *maker }

func (m oddMaker) number() int {
	return pick(m.maker, 0, 0, 1, 1, 2, 3, 4, 7, 41, -1, math.MaxInt, math.MinInt, 1<<40)
}

func (m oddMaker) node(deep int) api.Node {
	n := api.Node{Kind: m.Intn(18) - 1, N: m.number(), S: pick(m.maker, "", "a", "b", "+", "||", "=", "?")}
	if deep > 0 {
		n.Kids = numbered(m.Intn(4), func(int) api.Node { return m.node(deep - 1) })
		n.Plans = numbered(m.Intn(2), func(int) api.Plan { return m.plan(deep - 1) })
	}
	return n
}

func (m oddMaker) nodes(deep int) []api.Node {
	return numbered(m.Intn(4), func(int) api.Node { return m.node(deep) })
}

func (m oddMaker) plan(deep int) api.Plan {
	p := api.Plan{Kind: m.Intn(18) - 1, N: m.number(), Width: m.number(), E: m.nodes(deep - 1)}
	if deep > 0 {
		p.Kids = numbered(m.Intn(4), func(int) api.Plan { return m.plan(deep - 1) })
	}
	p.Keys = numbered(m.Intn(3), func(int) int { return m.number() })
	p.Aggs = numbered(m.Intn(3), func(int) api.Gather {
		return api.Gather{Fn: pick(m.maker, "count", "sum", "min", "", "avg"), E: m.nodes(deep - 2)}
	})
	return p
}

func (m oddMaker) ops(deep int) []api.Op {
	return numbered(m.Intn(4), func(int) api.Op {
		op := api.Op{Kind: m.Intn(20) - 1, At: m.number(), N: m.number(), E: m.nodes(1), Where: m.nodes(0)}
		op.Names = numbered(m.Intn(3), func(int) string { return pick(m.maker, "", "a", "b", "c") })
		op.Cols = numbered(m.Intn(4), func(int) int { return m.number() })
		op.Plan = numbered(m.Intn(3), func(int) api.Plan { return m.plan(1) })
		if deep > 0 {
			op.Body, op.Else = m.ops(deep-1), m.ops(deep-1)
		}
		return op
	})
}

func (m oddMaker) program() api.Program {
	vars := func() []api.Var {
		return numbered(m.Intn(4), func(int) api.Var { return api.Var{Name: pick(m.maker, "", "a", "b", "c"), Type: m.number()} })
	}
	return api.Program{Procs: numbered(m.Intn(4), func(int) api.Code { return api.Code{Params: vars(), Vars: vars(), Body: m.ops(pick(m.maker, 0, 1, 2))} })}
}

// P1, P2, P19.2 to P19.4, of what is made of anything.
func TestOddMade(t *testing.T) {
	came := map[string]int{}
	for seed := range 700 {
		m := oddMaker{makerOf(70000 + seed)}
		p := m.program()
		x, ok := oddMade(t, m.c, p)
		if !ok {
			x = levelProof(p, pick(m.maker, m.c.Lattice().Bottom(), m.c.Lattice().Top()))
		}
		standsAlone(t, m.c, p, x, m.oddProof())
		v := flow.Check(m.c, p)
		for range 6 {
			y := copied(x)
			for _, s := range spotsOf(p, &y) {
				switch {
				case s.can != nil && m.often(10):
					*s.can = m.often(80)
				case s.level != nil && m.often(10):
					*s.level = pick(m.maker, m.c.Lattice().Above(*s.level)...)
				}
			}
			if derive.Verify(m.c, p, y) {
				came["taken"]++
				check(t, "Diags", len(v.Diags), 0)
				isAbove(t, m.c, v, y)
			} else {
				came["refused"]++
			}
		}
		for _, nobody := range nobodies() {
			check(t, "without a catalog", derive.Verify(nobody, p, x), false)
		}
		if t.Failed() {
			t.Fatalf("seed %d", seed)
		}
	}
	enough(t, came, 300, "taken", "refused")
}

// levelProof is a proof that fits, and claims one level everywhere, and that all can raise something.
func levelProof(p api.Program, level int) api.Proof {
	var x api.Proof
	for _, code := range p.Procs {
		x.Vars = append(x.Vars, numbered(len(code.Params)+len(code.Vars), func(int) int { return level }))
		x.Entry, x.Raise, x.Can = append(x.Entry, level), append(x.Raise, level), append(x.Can, true)
		x.Procs = append(x.Procs, blankRules(level, code.Body))
	}
	for _, s := range spotsOf(p, &x) {
		if s.can != nil {
			*s.can = true
		}
	}
	return x
}

// As deep as may be: 2^16 parts within one another.
func TestDeep(t *testing.T) {
	const deep = 1<<16 - 8
	c := benchOf("")[1]
	va := variable("va")
	plan := above(api.PlProject, scan(0), col(0))
	raise := api.Op{Kind: api.StRaise}
	body, other := func(r api.Rule) []api.Rule { return r.Body }, func(r api.Rule) []api.Rule { return r.Else }
	for i, w := range []struct {
		around func(in api.Op) api.Op
		in     func(r api.Rule) []api.Rule
		counts bool // does what stands within?
	}{
		{func(in api.Op) api.Op { return api.Op{Kind: api.StIf, E: one(va), Body: one(in)} }, body, true},
		{func(in api.Op) api.Op { return api.Op{Kind: api.StIf, E: one(va), Else: one(in)} }, other, true},
		{func(in api.Op) api.Op { return api.Op{Kind: api.StWhile, E: one(va), Body: one(in)} }, body, true},
		{func(in api.Op) api.Op { return api.Op{Kind: api.StWhile, Body: one(in)} }, body, true},
		{func(in api.Op) api.Op {
			return api.Op{Kind: api.StFor, Names: one("x"), Plan: one(plan), Body: one(in)}
		}, body, true},
		{func(in api.Op) api.Op { return api.Op{Kind: api.StTry, Body: one(raise), Else: one(in)} }, other, true},
		{func(in api.Op) api.Op { return api.Op{Kind: api.StTry, Body: one(in), Else: one(raise)} }, body, true},
		{func(in api.Op) api.Op { return api.Op{Kind: api.StTry, Body: one(in)} }, body, true},
		{func(in api.Op) api.Op { return api.Op{Kind: 99, Body: one(in)} }, body, false},
	} {
		in := api.Op{Kind: api.StSet, Names: one("x"), E: one(node(api.ExNeg, va))}
		for range deep {
			in = w.around(in)
		}
		p := programFrom(ownCode(in))
		x, ok := derive.Make(c, p)
		if !ok || !derive.Verify(c, p, x) {
			t.Errorf("%d: there is no proof", i)
		}
		rules := x.Procs[0][1:]
		for range deep {
			rules = w.in(rules[0])
		}
		check(t, i, rules[0].Can, w.counts)
		rules[0].Pc = levelOf(c, "b")
		check(t, i, derive.Verify(c, p, x), !w.counts)
	}
}

// A great many statements beside one another, variables, procedures.
func TestWide(t *testing.T) {
	const wide = 1 << 16
	c := benchOf("")[2]
	ops := numbered(wide, func(i int) api.Op {
		return api.Op{Kind: api.StWhile, E: one(variable("va")), Body: one(api.Op{Kind: api.StSkip})}
	})
	ops = append(ops, numbered(wide, func(i int) api.Op { return api.Op{Kind: api.StPrint, N: 2, E: one(variable("va"))} })...)
	p := programFrom(ownCode(ops...))
	x := madeOf(t, c, p)
	x.Procs[0][2*wide].Pc = levelOf(c, "b")
	check(t, "statements", derive.Verify(c, p, x), false)
	codes := numbered(wide, func(i int) api.Code { return api.Code{Body: one(api.Op{Kind: api.StCall, N: i})} })
	codes = append(codes, ownCode(api.Op{Kind: api.StIf, E: one(variable("va")), Body: one(api.Op{Kind: api.StCall, N: wide - 1})}))
	p = programFrom(codes...)
	x = madeOf(t, c, p)
	x.Entry[wide-1] = levelOf(c, "low")
	check(t, "procedures", derive.Verify(c, p, x), false)
	code := ownCode(api.Op{Kind: api.StSet, Names: one("last"), E: one(variable("vb"))})
	code.Vars = append(code.Vars, append(numbered(wide, func(int) api.Var { return api.Var{Name: "other"} }), api.Var{Name: "last"})...)
	p = programFrom(code)
	x = madeOf(t, c, p)
	x.Vars[0][len(code.Vars)-1] = levelOf(c, "a")
	check(t, "variables", derive.Verify(c, p, x), false)
}
