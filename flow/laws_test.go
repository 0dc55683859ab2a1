package flow_test

import (
	"fmt"
	"slices"
	"testing"

	"cordon/api"
	"cordon/flow"
	"cordon/script"
)

// levelsOf are all levels that a verdict tells.
func levelsOf(v api.Verdict) []int {
	return slices.Concat(append(slices.Clone(v.Vars), v.Entry, v.Raise, one(v.Loops))...)
}

// What is told is levels, and as many as are asked for; Raise is Bottom where nothing can be raised; the script itself is called at Bottom; Diags stand at places of statements, with a Why.
func TestForm(t *testing.T) {
	madeIn(t, 40000, 2000, func(m *maker, x made) {
		v, l := flow.Check(m.c, x.p), m.c.Lattice()
		for _, level := range levelsOf(v) {
			if !l.Leq(level, level) {
				t.Errorf("%d is no level", level)
			}
		}
		n := len(x.p.Procs)
		if len(v.Vars) != n || len(v.Entry) != n || len(v.Raise) != n || len(v.Can) != n {
			t.Fatalf("of %d procedures %+v", n, v)
		}
		for i, code := range x.p.Procs {
			check(t, "variables", len(v.Vars[i]), len(code.Params)+len(code.Vars))
			if !v.Can[i] && v.Raise[i] != l.Bottom() || v.Can[i] && !l.Leq(v.Entry[i], v.Raise[i]) {
				t.Errorf("called at %d: %v, raises at %d", v.Entry[i], v.Can[i], v.Raise[i])
			}
		}
		check(t, "the script's own", v.Entry[n-1], l.Bottom())
		for _, d := range v.Diags {
			if d.At <= 0 || d.At > m.count || d.Why < api.WhyPrint || d.Why > api.WhyInput {
				t.Errorf("%+v is none", d)
			}
		}
	})
}

// P18.3: where all is of Bottom, nothing may not flow, and all is of Bottom.
func TestOneLevel(t *testing.T) {
	came := map[bool]int{}
	for seed := range 3000 {
		m := makerOf(60000 + seed)
		bottom := m.c.Lattice().Bottom()
		s, name := m.s, nameOf(m.c, bottom)
		for i := range s.Tables {
			s.Tables[i].Rows = name
			for j := range s.Tables[i].Cols {
				s.Tables[i].Cols[j].Level = name
			}
			if len(s.Tables[i].When) > 0 {
				s.Tables[i].Hide = name
			}
		}
		for i := range s.Channels {
			s.Channels[i].High = name
		}
		m.s, m.c = s, catalogFrom(s)
		m.tables = m.c.Tables()
		x, ok := m.made()
		if !ok {
			continue
		}
		v := flow.Check(m.c, x.p)
		check(t, seed, len(v.Diags), 0)
		for _, level := range levelsOf(v) {
			check(t, seed, level, bottom)
		}
		came[v.Can[len(v.Can)-1]]++
	}
	enough(t, came, 300, true, false)
}

// counted is how often each Diag is there.
func counted(l []api.Diag) map[api.Diag]int {
	out := map[api.Diag]int{}
	for _, d := range l {
		out[d]++
	}
	return out
}

// noMore looks whether of no Diag there are more than there were, and tells whether there are fewer in all.
func noMore(t *testing.T, was, is []api.Diag) bool {
	t.Helper()
	before := counted(was)
	for d, n := range counted(is) {
		if n > before[d] {
			t.Errorf("%+v is there %d times, not %d", d, n, before[d])
		}
	}
	return len(is) < len(was)
}

// P18.4: with a higher level of a channel there is no Diag more; nothing else changes.
func TestChannels(t *testing.T) {
	came := map[string]int{}
	madeIn(t, 80000, 3000, func(m *maker, x made) {
		was := flow.Check(m.c, x.p)
		for i, ch := range m.c.Channels() {
			for _, higher := range m.c.Lattice().Above(ch.Level) {
				s := m.s
				s.Channels = slices.Clone(s.Channels)
				s.Channels[i].High = nameOf(m.c, higher)
				is := flow.Check(catalogFrom(s), x.p)
				if noMore(t, was.Diags, is.Diags) {
					came["fewer"]++
				}
				came["all"]++
				check(t, "all else", fmt.Sprint(is.Vars, is.Entry, is.Raise, is.Can, is.Loops), fmt.Sprint(was.Vars, was.Entry, was.Raise, was.Can, was.Loops))
			}
		}
	})
	enough(t, came, 300, "all", "fewer")
}

// isWritten tells whether a statement writes a table.
func isWritten(l []api.Op, table int) bool {
	return slices.ContainsFunc(l, func(op api.Op) bool {
		is := op.N == table && slices.Contains(one(api.StInsert, api.StInsertQ, api.StUpdate, api.StDelete), op.Kind)
		return is || isWritten(op.Body, table) || isWritten(op.Else, table)
	})
}

// inPredicate tells whether a column is in the predicate that the maker gave a table.
func inPredicate(r api.Relation, name string) bool {
	return slices.ContainsFunc(r.When, func(x api.Expr) bool {
		return slices.ContainsFunc(x.Kids, func(kid api.Expr) bool { return kid.S == name })
	})
}

// P18.5: with a lower level of a column of a table that no statement writes, and that is neither of its key nor of its predicate, there is no Diag more.
func TestReadAlone(t *testing.T) {
	came := map[string]int{}
	madeIn(t, 100000, 8000, func(m *maker, x made) {
		was := flow.Check(m.c, x.p)
		for i, r := range m.tables {
			if slices.ContainsFunc(x.p.Procs, func(c api.Code) bool { return isWritten(c.Body, i) }) {
				continue
			}
			for j, f := range r.Cols {
				if slices.Contains(r.Key, j) || inPredicate(r, f.Name) {
					continue
				}
				for lower := range m.c.Lattice().Levels() {
					if lower == f.Level || !m.c.Lattice().Leq(lower, f.Level) {
						continue
					}
					s := m.s
					s.Tables = slices.Clone(s.Tables)
					s.Tables[i].Cols = slices.Clone(s.Tables[i].Cols)
					s.Tables[i].Cols[j].Level = nameOf(m.c, lower)
					is := flow.Check(catalogFrom(s), x.p)
					came["all"]++
					if noMore(t, was.Diags, is.Diags) {
						came["fewer"]++
					}
					if slices.ContainsFunc(is.Diags, func(d api.Diag) bool { return d.Why == api.WhySaved }) {
						came["saved"]++
					}
				}
			}
		}
	})
	enough(t, came, 150, "all", "fewer", "saved")
}

// With lower levels of all columns that no statement writes, of the variables nothing is higher.
func TestLower(t *testing.T) {
	came := map[string]int{}
	madeIn(t, 120000, 3000, func(m *maker, x made) {
		s := m.s
		s.Tables = slices.Clone(s.Tables)
		for i, r := range m.tables {
			if !slices.ContainsFunc(x.p.Procs, func(c api.Code) bool { return isWritten(c.Body, i) }) {
				s.Tables[i].Cols = slices.Clone(s.Tables[i].Cols)
				for j := range r.Cols {
					s.Tables[i].Cols[j].Level = nameOf(m.c, m.c.Lattice().Bottom())
				}
			}
		}
		was, is := levelsOf(flow.Check(m.c, x.p)), levelsOf(flow.Check(catalogFrom(s), x.p))
		for i := range was {
			if !m.c.Lattice().Leq(is[i], was[i]) {
				t.Errorf("%d is higher than %d", is[i], was[i])
			}
			if is[i] != was[i] {
				came["lower"]++
			}
		}
	})
	enough(t, came, 200, "lower")
}

// The same program gives the same verdict each time, also over a catalog that is made again, and compiled again.
func TestSameEachTime(t *testing.T) {
	madeIn(t, 140000, 600, func(m *maker, x made) {
		first := fmt.Sprintf("%+v", flow.Check(m.c, x.p))
		for range 5 {
			c := catalogFrom(m.s)
			p, _, _ := script.Compile(c, x.s)
			check(t, "again", fmt.Sprintf("%+v", flow.Check(m.c, x.p)), first)
			check(t, "made again", fmt.Sprintf("%+v", flow.Check(c, p)), first)
		}
	})
}

// A script that does its statements itself, and one that has them in a procedure that it calls, differ in places of levels alone.
func TestInProcedure(t *testing.T) {
	madeIn(t, 160000, 1500, func(m *maker, x made) {
		in := api.Script{Procs: append(slices.Clone(x.s.Procs), api.Proc{Name: "all_of_it", Vars: x.s.Vars, Body: x.s.Body}), Body: one(api.Stmt{Kind: api.StCall, Table: "all_of_it"})}
		v, is := flow.Check(m.c, x.p), flow.Check(m.c, compiled(t, m.c, in))
		n := len(x.p.Procs)
		check(t, "Diags", fmt.Sprint(is.Diags, is.Loops), fmt.Sprint(v.Diags, v.Loops))
		check(t, "procedures", fmt.Sprint(is.Vars[:n], is.Entry[:n], is.Raise[:n], is.Can[:n]), fmt.Sprint(v.Vars, v.Entry, v.Raise, v.Can))
		check(t, "the script", fmt.Sprint(is.Raise[n], is.Can[n]), fmt.Sprint(v.Raise[n-1], v.Can[n-1]))
	})
}
