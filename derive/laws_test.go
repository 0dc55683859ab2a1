package derive_test

import (
	"fmt"
	"testing"

	"cordon/api"
	"cordon/derive"
	"cordon/flow"
	"cordon/schema"
)

// isAbove looks whether a proof's levels of variables, and of where procedures are called, are those of layer 18, or greater (P19.4), and tells whether one is greater.
func isAbove(t testing.TB, c *schema.Catalog, v api.Verdict, x api.Proof) bool {
	t.Helper()
	greater := false
	hold := func(what string, least, is int) {
		if !c.Lattice().Leq(least, is) {
			t.Errorf("%s is taken at %s, not %s or above", what, nameOf(c, is), nameOf(c, least))
		}
		greater = greater || least != is
	}
	for i, l := range v.Vars {
		hold("an entry", v.Entry[i], x.Entry[i])
		for j, level := range l {
			hold("a variable", level, x.Vars[i][j])
		}
	}
	return greater
}

// Of scripts made over schemas of any kind: there is a proof just if layer 18 has no Diag, and Make makes the one that claims the least (P19.2, P19.3).
func TestMade(t *testing.T) {
	came := map[string]int{}
	madeIn(t, 0, 4000, func(m *maker, x made) {
		v, second := flow.Check(m.c, x.p), modelOf(m.c, x)
		least := second.least()
		got, ok := derive.Make(m.c, x.p)
		check(t, "is there one", ok, len(v.Diags) == 0)
		check(t, "is there one, a second way", ok, second.takes(least))
		check(t, "is the least one taken", derive.Verify(m.c, x.p, least), ok)
		if !ok {
			check(t, "nothing is made", isNothing(got), true)
			came["none"]++
			return
		}
		check(t, "is it taken", derive.Verify(m.c, x.p, got), true)
		check(t, "levels", fmt.Sprint(got.Vars, got.Entry, got.Raise, got.Can), fmt.Sprint(v.Vars, v.Entry, v.Raise, v.Can))
		check(t, "the least one", fmt.Sprintf("%+v", got), fmt.Sprintf("%+v", least))
		came["one"]++
	})
	enough(t, came, 500, "none", "one")
}

// counts tells whether a claim is needed just as it is in the least proof: at all levels that do not stand above it the proof is not taken. What a rule that can't raise anything claims of its Raise tells nothing.
func counts(spots []spot, i int) bool {
	return spots[i].can != nil || spots[i+1].can == nil || *spots[i+1].can
}

// Each level of a proof that Make makes, at each other level, alone: it is taken where the second way takes it, and not below where it was, nor beside.
func TestEachLevel(t *testing.T) {
	came := map[string]int{}
	madeIn(t, 10000, 1500, func(m *maker, x made) {
		got, ok := derive.Make(m.c, x.p)
		if !ok {
			return
		}
		v := flow.Check(m.c, x.p)
		spots, second := spotsOf(x.p, &got), modelOf(m.c, x)
		for i, s := range spots {
			if s.can != nil {
				was := *s.can
				*s.can = !was
				is := derive.Verify(m.c, x.p, got)
				check(t, s.name, is, second.takes(got))
				check(t, s.name, is && was, false)
				came[fmt.Sprintf("%v, can it %v", is, !was)]++
				*s.can = was
				continue
			}
			was := *s.level
			for level := range m.c.Lattice().Levels() {
				if level == was || m.Intn(3) > 0 {
					continue
				}
				*s.level = level
				is := derive.Verify(m.c, x.p, got)
				check(t, s.name, is, second.takes(got))
				higher := m.c.Lattice().Leq(was, level)
				if is {
					isAbove(t, m.c, v, got)
					check(t, s.name+" at another level", higher || !counts(spots, i), true)
				}
				came[fmt.Sprintf("%v, higher %v", is, higher)]++
			}
			*s.level = was
		}
	})
	enough(t, came, 300, "true, can it true", "false, can it true", "false, can it false", "true, higher true", "false, higher true", "false, higher false")
}

// changed is a proof with some claims changed, most of them raised; now and then it is mended, so that more such are taken.
func (m *maker) changed(x made, second *model, proof api.Proof) api.Proof {
	proof = copied(proof)
	spots, l := spotsOf(x.p, &proof), m.c.Lattice()
	for range 1 + m.Intn(4) {
		s := pick(m, spots...)
		switch {
		case s.can != nil:
			*s.can = m.often(80)
		case m.often(75):
			*s.level = pick(m, l.Above(*s.level)...)
		default:
			*s.level = m.Intn(len(l.Levels()))
		}
	}
	if m.often(60) {
		proof = second.mended(proof)
	}
	return proof
}

// Proofs with some claims changed: they are taken where the second way takes them; and then layer 18 has no Diag (P19.3), and no greater levels (P19.4).
func TestChangedProofs(t *testing.T) {
	came := map[string]int{}
	madeIn(t, 20000, 1500, func(m *maker, x made) {
		v, second := flow.Check(m.c, x.p), modelOf(m.c, x)
		least := second.least()
		for range 12 {
			y := m.changed(x, second, least)
			is := derive.Verify(m.c, x.p, y)
			check(t, "is it taken", is, second.takes(y))
			name := "refused"
			if is {
				check(t, "Diags", len(v.Diags), 0)
				name = "taken"
				if isAbove(t, m.c, v, y) {
					came["taken, and greater"]++
				}
			} else if len(v.Diags) > 0 {
				name = "none is there"
			}
			came[name]++
		}
	})
	enough(t, came, 500, "refused", "taken", "taken, and greater", "none is there")
}

// allProofs hands all proofs there are of a program to a test.
func allProofs(c *schema.Catalog, p api.Program, x *api.Proof, try func()) {
	spots := spotsOf(p, x)
	var from func(i int)
	from = func(i int) {
		if i == len(spots) {
			try()
			return
		}
		if spots[i].can != nil {
			for _, can := range one(false, true) {
				*spots[i].can = can
				from(i + 1)
			}
			return
		}
		for level := range c.Lattice().Levels() {
			*spots[i].level = level
			from(i + 1)
		}
	}
	from(0)
}

// All proofs of short scripts, over two levels: there is one just if layer 18 has no Diag (P19.3), each that is taken has its levels or greater ones (P19.4), and these are the ones that the second way takes.
func TestAllProofs(t *testing.T) {
	const rest = "order low < high; channel out low; channel log high; table t rows low (k int low, y int null low, z int null high) key (k) hide high when k = 1; table s rows high (i int high);"
	for text, want := range map[string]int{ // how many are taken
		"":                                    8,
		"skip;":                               33,
		"raise;":                              5,
		"print out 1;":                        11,
		"print log -1;":                       5,
		"print out 1; print out 2;":           -1,
		"raise; print out 2;":                 7,
		"var x int; set x = 1; print out :x;": 29,
		"var x int; set x = :x;":              44,
		"var x int; input x; print log :x;":   -1,
		"begin;":                              11,
		"if true { print out 1; }":            -1,
		"if true { raise; } else { print out 1; }":                    -1,
		"var x int; if :x > 0 { print log :x; }":                      -1,
		"while true { raise; }":                                       -1,
		"while -1 > 0 { skip; }":                                      -1,
		"var x int; for x in select i as x from s { skip; }":          -1,
		"var x int; for x in select i as x from s { print out 1; }":   0,
		"var x int; for x in select i as x from s { print log :x; }":  -1,
		"var x int; for x in select y as x from t visible { raise; }": -1,
		"var x int; for x in select y as x from t { print out :x; }":  0,
		"try { raise; } catch { print out 1; }":                       -1,
		"try { skip; } catch { raise; }":                              40,
		"try { insert into t values (1, 2, 3); } catch { skip; }":     -1,
		"insert into t values (1, 2, 3);":                             -1,
		"insert into t values (1, 2, 3); print log 1;":                -1,
		"insert into t values (1, 2, 3); print out 1;":                0,
		"insert into t select 1 as k, 2 as y, 3 as z;":                0,
		"insert into s select 1 as i;":                                -1,
		"update t set y = 1;":                                         -1,
		"update t set z = -1;":                                        -1,
		"update t set y = -1;":                                        0,
		"delete from t where y > 0;":                                  -1,
		"delete from t where z > 0;":                                  0,
		"delete from t where -y > 0;":                                 0,
		"proc p() { skip; } skip;":                                    -1,
		"proc p() { raise; } call p();":                               -1,
		"proc p() { call p(); }":                                      88,
		"proc p(n int) { print out :n; } call p(1);":                  -1,
		"proc p(n int) { call p(:n); }":                               -1,
	} {
		for _, levels := range []string{"levels low, high;", "levels high, low;"} {
			c := catalogOf(levels + rest)
			m := read(t, c, text)
			v, second, n := flow.Check(c, m.p), modelOf(c, m), 0
			x := second.least()
			allProofs(c, m.p, &x, func() {
				is := derive.Verify(c, m.p, x)
				check(t, text, is, second.takes(x))
				if is {
					n++
					isAbove(t, c, v, x)
				}
			})
			check(t, "is there a proof of "+text, n > 0, len(v.Diags) == 0)
			if want >= 0 {
				check(t, "how many proofs of "+text, n, want)
			} else if n == 0 {
				t.Errorf("there is no proof of %s", text)
			}
			_, ok := derive.Make(c, m.p)
			check(t, "is one made of "+text, ok, n > 0)
		}
	}
}

// With one level all is taken that fits, and claims that what can raise something can; there is always a proof (P19.3).
func TestOneLevel(t *testing.T) {
	came := map[bool]int{}
	for seed := range 1500 {
		m := &maker{Rand: makerOf(30000 + seed).Rand}
		m.schema(lattices()[0], m.often(50))
		x, ok := m.made()
		if !ok {
			continue
		}
		got := madeOf(t, m.c, x.p)
		for range 4 {
			y := copied(got)
			for _, s := range spotsOf(x.p, &y) {
				if s.can != nil && m.often(10) {
					*s.can = m.often(70)
				}
			}
			is := derive.Verify(m.c, x.p, y)
			check(t, seed, is, modelOf(m.c, x).takes(y))
			came[is]++
		}
	}
	enough(t, came, 300, true, false)
}

// The proof of one program is one of another just where the second way says so.
func TestOthersProofs(t *testing.T) {
	came := map[bool]int{}
	for seed := range 150 {
		m := makerOf(40000 + seed)
		var all []made
		for len(all) < 6 {
			if x, ok := m.made(); ok {
				all = append(all, x)
			}
		}
		for _, x := range all {
			for _, y := range all {
				proof := modelOf(m.c, y).least()
				is := derive.Verify(m.c, x.p, proof)
				check(t, seed, is, modelOf(m.c, x).takes(proof))
				came[is]++
			}
		}
	}
	enough(t, came, 300, true, false)
}

// The same each time, over a catalog that is made again, too.
func TestSameEachTime(t *testing.T) {
	madeIn(t, 50000, 500, func(m *maker, x made) {
		first, ok := derive.Make(m.c, x.p)
		second := modelOf(m.c, x)
		told, changed := fmt.Sprintf("%+v", first), m.changed(x, second, second.least())
		taken := derive.Verify(m.c, x.p, changed)
		for range 4 {
			c := catalogFrom(m.s)
			again, is := derive.Make(c, x.p)
			check(t, "again", fmt.Sprintf("%+v", again), told)
			check(t, "again", is, ok)
			check(t, "taken again", derive.Verify(c, x.p, changed), taken)
		}
	})
}
