package audit_test

import (
	"slices"
	"testing"

	"cordon/api"
	"cordon/audit"
	"cordon/engine"
	"cordon/erase"
	"cordon/labels"
	"cordon/store"
)

// madeIn hands each of so many worlds to a test.
func madeIn(t *testing.T, from, n int, try func(m *maker)) {
	t.Helper()
	for seed := from; seed < from+n; seed++ {
		try(makerOf(seed))
		if t.Failed() {
			t.Fatalf("seed %d", seed)
		}
	}
}

// people are the names of all principals of a world.
func (w world) people() []string {
	return numbered(len(w.s.Principals), func(i int) string { return w.s.Principals[i].Low })
}

// P22.1, of what is made in a loop: what the second way tells.
func TestMadeLooks(t *testing.T) {
	came := map[string]int{}
	madeIn(t, 0, 3000, func(m *maker) {
		for _, who := range append(m.people(), "", "nobody", "t", "c0", m.s.Levels[0]) {
			reads, hears := m.reads(who), m.hears(who)
			check(t, "Reads of "+who, grantsTold(audit.Reads(m.c, who)), grantsTold(reads))
			check(t, "Hears of "+who, namesTold(audit.Hears(m.c, who)), namesTold(hears))
			switch {
			case m.own(who) == "":
				came["nobody"]++
			case len(reads) == 0:
				came["reads nothing"]++
			case len(reads) == 10:
				came["reads all"]++
			default:
				came["reads some"]++
			}
			if n := len(hears); n > 0 && n < len(m.s.Channels) {
				came["hears some"]++
			}
		}
		for level := -2; level < len(m.s.Levels)+2; level++ {
			who := m.who(level)
			check(t, level, namesTold(audit.Who(m.c, level)), namesTold(who))
			if n := len(who); n > 0 && n < len(m.s.Principals) {
				came["some see it"]++
			}
		}
	})
	enough(t, came, 500, "nobody", "reads nothing", "reads all", "reads some", "hears some", "some see it")
}

// plans makes some, over one world.
func (m *maker) plans(n int) []api.Plan {
	var out []api.Plan
	for range n {
		if p, ok := m.plan(); ok {
			out = append(out, p)
		}
	}
	return out
}

// P22.2 and P22.3, of what is made in a loop: what the second way tells, and then what the plan comes to.
func TestMadeAsk(t *testing.T) {
	came := map[string]int{}
	madeIn(t, 10000, 1200, func(m *maker) {
		d := m.store(6)
		for _, p := range m.plans(12) {
			rows, own := engine.Rows(d, nil, p)
			for _, who := range append(m.people(), "nobody") {
				err, why := m.may(who, p)
				checkErr(t, who, audit.May(m.c, who, p), err)
				if err != api.OK {
					check(t, who, askedTold(d, who, p), err.Error())
					came[why]++
					if own != api.OK {
						came["May's error ahead of its own"]++
					}
					continue
				}
				check(t, who, askedTold(d, who, p), answerTold(rows, own))
				switch {
				case own != api.OK:
					came["its own error"]++
				case len(rows) == 0:
					came["no rows"]++
				default:
					came["rows"]++
				}
			}
		}
	})
	enough(t, came, 200, "nobody", "Rows alone", "one of Cols alone", "Raise alone", "several", "May's error ahead of its own", "its own error", "no rows", "rows")
}

// P22.4: of two stores that are Same at a principal's level the answer is the same, where neither is ErrRows.
func TestBlind(t *testing.T) {
	came := map[string]int{}
	madeIn(t, 20000, 1500, func(m *maker) {
		d, plans := m.store(6), m.plans(12)
		for _, principal := range m.c.Principals() {
			for _, o := range one(m.alike(d, principal.Level), erase.Mix(d, m.store(6), principal.Level)) {
				checkIs(t, "Same", erase.Same(d, o, principal.Level), true)
				for _, p := range plans {
					came[blind(t, d, o, principal.Name, p)]++
				}
			}
		}
	})
	enough(t, came, 1000, "the same rows", "the same rows of unlike stores", "the same error", "refused, though the same", "refused, and unlike")
}

// blind looks whether two stores that are seen as the same by a principal answer it the same, and tells which case that was.
func blind(t *testing.T, d, o *store.DB, who string, p api.Plan) string {
	t.Helper()
	a, errA := audit.Ask(d, who, p)
	b, errB := audit.Ask(o, who, p)
	if errA == api.ErrRows || errB == api.ErrRows {
		return "too many rows"
	}
	if answerTold(a, errA) != answerTold(b, errB) {
		t.Errorf("%s: %s and %s of %s and %s, by %v", who, answerTold(a, errA), answerTold(b, errB), storeTold(d), storeTold(o), labels.Plan(d.Catalog(), nil, p))
	}
	switch {
	case errA == api.ErrFlow:
		a, errA = engine.Rows(d, nil, p)
		b, errB = engine.Rows(o, nil, p)
		if answerTold(a, errA) != answerTold(b, errB) {
			return "refused, and unlike"
		}
		return "refused, though the same"
	case errA != api.OK:
		return "the same error"
	case len(a) > 0 && !d.Same(o):
		return "the same rows of unlike stores"
	}
	return "the same rows"
}

// P22.4, of queries of each kind over our tables.
func TestBlindOfOurs(t *testing.T) {
	came := map[string]int{}
	for _, c := range ours() {
		d := ourStore(c)
		for _, other := range []string{ourRows, "", "7 7 'q' false | 7 7 7 | 7 true 'q' | 7 7; -7 7; -7 7 | 7 7 | 7 'q'", "9 0 'y' true; 8 0 'x' null | 2 0 0; 1 0 null; 5 5 5 | 4 true null; 2 true 'q'; 1 true 's' | -1 0; -2 null | 0 0 | null ''; 0 'x'"} {
			o := store.New(c)
			if other != "" {
				o = storeOf(c, tablesOf(other)...)
			}
			for _, principal := range c.Principals() {
				mixed := erase.Mix(d, o, principal.Level)
				checkIs(t, "Same", erase.Same(d, mixed, principal.Level), true)
				for _, x := range asked() {
					came[blind(t, d, mixed, principal.Name, planOf(c, x.query))]++
				}
			}
		}
	}
	enough(t, came, 100, "the same rows", "the same rows of unlike stores", "refused, though the same", "refused, and unlike")
}

// P22.5: a principal whose level stands above that of another one may ask all that that one may.
func TestMore(t *testing.T) {
	came := map[string]int{}
	madeIn(t, 30000, 1200, func(m *maker) {
		plans := m.plans(12)
		for _, high := range m.s.Principals {
			for _, low := range m.s.Principals {
				if !reaches(m.s, low.High, high.High) {
					came["neither"]++
					continue
				}
				for _, p := range plans {
					may, too := audit.May(m.c, low.Low, p), audit.May(m.c, high.Low, p)
					switch {
					case may == api.OK && too != api.OK:
						t.Errorf("%s may, %s may not", low, high)
					case low.High == high.High && may != too:
						t.Errorf("%s: %v, %s: %v", low, may, high, too)
					case may == api.OK && low.High != high.High:
						came["both may"]++
					case too == api.OK && low.High != high.High:
						came["that above alone"]++
					case too != api.OK:
						came["none may"]++
					}
				}
			}
		}
	})
	enough(t, came, 1000, "neither", "both may", "that above alone", "none may")
}

// P22.5, of what is read and heard: who stands above sees all of it, in the same order; Who tells of it, too.
func TestMoreLooks(t *testing.T) {
	madeIn(t, 40000, 400, func(m *maker) {
		for _, high := range m.c.Principals() {
			for _, low := range m.c.Principals() {
				if !slices.Contains(audit.Who(m.c, low.Level), high.Name) {
					continue
				}
				all, heard := audit.Reads(m.c, high.Name), audit.Hears(m.c, high.Name)
				for _, g := range audit.Reads(m.c, low.Name) {
					checkIs(t, g, slices.Contains(all, g), true)
				}
				for _, channel := range audit.Hears(m.c, low.Name) {
					checkIs(t, channel, slices.Contains(heard, channel), true)
				}
			}
		}
	})
}

// A column is open just if its values may be asked for, of the rows that are visible.
func TestReadsMay(t *testing.T) {
	for _, c := range ours() {
		for _, p := range c.Principals() {
			var open []api.Grant
			for _, r := range c.Tables() {
				for _, f := range r.Cols {
					if audit.May(c, p.Name, planOf(c, "select "+f.Name+" as q from "+r.Name+" visible")) == api.OK {
						open = append(open, api.Grant{Table: r.Name, Column: f.Name})
					}
				}
			}
			check(t, p.Name, grantsTold(audit.Reads(c, p.Name)), grantsTold(open))
		}
	}
}
