package app_test

import (
	"slices"
	"sort"
	"testing"

	"cordon/api"
	"cordon/erase"
	"cordon/interp"
	"cordon/schema"
	"cordon/script"
	"cordon/store"
)

// ends tells whether a run ended: not for want of fuel, nor with too many rows.
func (a answer) ends() bool { return a.err != api.ErrFuel && a.err != api.ErrRows }

// begins tells whether a list is a beginning of another one.
func begins(a, b []api.Out) bool { return len(a) <= len(b) && slices.Equal(a, b[:len(a)]) }

// breach is how two runs on tables that are Same at a level break what is promised of them; empty, if they do not. What it is that is held against each other is told, too.
func breach(c *schema.Catalog, v api.Verdict, level int, a, b answer) (wrong, held string) {
	x, y := erase.Outs(c, a.told, level), erase.Outs(c, b.told, level)
	last := len(v.Can) - 1
	switch {
	case !a.ends() && !b.ends():
		return "", "neither ends"
	case !a.ends() && !begins(x, y), !b.ends() && !begins(y, x):
		return "what was told is no beginning", ""
	case !a.ends() || !b.ends():
		return "", "one does not end"
	case !slices.Equal(x, y):
		return "another thing is told", ""
	case !erase.Same(a.tables, b.tables, level):
		return "other tables", ""
	case !v.Can[last] && a.err != b.err:
		return "raised by what can raise nothing", ""
	case !v.Can[last]:
		return "", "nothing can be raised"
	case !c.Lattice().Leq(v.Raise[last], level):
		return "", "what is raised is not seen"
	case a.err != b.err:
		return "another end", ""
	}
	return "", "what is raised is seen"
}

// twin is two stores that are Same at a level.
type twin struct {
	level int
	d, o  *store.DB
}

// twins are some at each level, of one store and others.
func (m *maker) twins(d *store.DB) []twin {
	var out []twin
	for level := range m.s.Levels {
		out = append(out, twin{level, d, m.alike(d, level)}, twin{level, d, erase.Mix(d, m.store(4), level)})
	}
	return out
}

// run runs an application on both.
func (w twin) run(a made, inputs []int, fuel int) (answer, answer) {
	return answerOf(a.Run(rowsIn(w.d), inputs, fuel)), answerOf(a.Run(rowsIn(w.o), inputs, fuel))
}

// holds looks whether two runs on both hold what is promised, and tells what was held against each other.
func (w twin) holds(t *testing.T, m *maker, v api.Verdict, a, b answer) string {
	t.Helper()
	wrong, held := breach(m.c, v, w.level, a, b)
	if wrong != "" || !erase.Same(w.d, w.o, w.level) {
		t.Errorf("%s at %s: of %s\n%v\nof %s\n%v", wrong, m.s.Levels[w.level], tablesTold(rowsIn(w.d)), a, tablesTold(rowsIn(w.o)), b)
	}
	return held
}

// P24.4 and P24.5, over schemas, scripts, tables and levels made in a loop.
func TestBlind(t *testing.T) {
	came := map[string]int{}
	madeIn(t, 0, 3000, func(m *maker, a made) {
		inputs, v := m.inputs(), a.Verdict()
		for _, w := range append(m.twins(m.store(4)), m.twins(m.store(4))...) {
			x, y := w.run(a, inputs, pick(m, 10, 30, 100, 1000))
			held := w.holds(t, m, v, x, y)
			came[held]++
			if x.err != y.err {
				came[held+", other ends"]++
			} else if x.err != api.OK {
				came[held+", the same error"]++
			}
			if len(erase.Outs(m.c, x.told, w.level)) > 0 && !slices.Equal(x.told, y.told) {
				came[held+", beside what is seen other things are told"]++
			}
			if !erase.Same(w.d, x.tables, w.level) && !x.tables.Same(y.tables) {
				came[held+", what is seen is changed, and the rest is not the same"]++
			}
			if (x.err == api.ErrRows) != (y.err == api.ErrRows) {
				came["too many rows in one of them"]++
			}
		}
	})
	enough(t, came, 500, "neither ends", "one does not end", "nothing can be raised", "what is raised is seen", "what is raised is not seen", "what is raised is seen, the same error", "too many rows in one of them")
	enough(t, came, 300, "what is raised is not seen, other ends")
	enough(t, came, 50, "nothing can be raised, beside what is seen other things are told", "what is raised is seen, beside what is seen other things are told", "what is raised is not seen, beside what is seen other things are told", "one does not end, beside what is seen other things are told")
	enough(t, came, 50, "nothing can be raised, what is seen is changed, and the rest is not the same", "what is raised is seen, what is seen is changed, and the rest is not the same", "what is raised is not seen, what is seen is changed, and the rest is not the same")
}

// least is with how much fuel an application no longer ends for want of it, on some tables.
func least(a made, d *store.DB, inputs []int, most int) int {
	return sort.Search(most, func(fuel int) bool {
		_, _, err := a.Run(rowsIn(d), inputs, fuel)
		return err != api.ErrFuel
	})
}

// P24.5: with fuel that is enough for just one of two runs, and as little less as there may be.
func TestFuelThatEndsOne(t *testing.T) {
	came := map[string]int{}
	const most = 400
	madeIn(t, 200000, 1200, func(m *maker, a made) {
		inputs, v := m.inputs(), a.Verdict()
		for _, w := range m.twins(m.store(4)) {
			x, y := least(a, w.d, inputs, most), least(a, w.o, inputs, most)
			from, to := min(x, y), max(x, y)
			if from == to {
				continue
			}
			for _, fuel := range one(from, (from+to)/2, to-1) {
				p, q := w.run(a, inputs, fuel)
				held := w.holds(t, m, v, p, q)
				came[held]++
				if held != "one does not end" {
					continue
				}
				seen := one(len(erase.Outs(m.c, p.told, w.level)), len(erase.Outs(m.c, q.told, w.level)))
				switch {
				case seen[0] != seen[1]:
					came["less is told"]++
				case seen[0] > 0:
					came["the same is told"]++
				}
			}
			p, q := w.run(a, inputs, to)
			came["enough: "+w.holds(t, m, v, p, q)]++
			p, q = w.run(a, inputs, from-1)
			check(t, "too little", w.holds(t, m, v, p, q), "neither ends")
		}
	})
	enough(t, came, 1000, "one does not end")
	enough(t, came, 100, "less is told", "the same is told", "enough: what is raised is seen", "enough: what is raised is not seen", "enough: nothing can be raised")
}

// Of scripts that are not accepted some break what is promised, in each way: so breach finds what is not so.
func TestOthersAreNotBlind(t *testing.T) {
	came := map[string]int{}
	for seed := range 1200 {
		m := newMaker(400000 + seed)
		s := m.script()
		of, text, ok := m.texts(s)
		if !ok {
			continue
		}
		v := verdictOf(t, of, text)
		p, _, _ := script.Compile(m.c, s)
		if len(v.Diags) == 0 {
			continue
		}
		for _, w := range m.twins(m.store(4)) {
			fuel, inputs := pick(m, 30, 1000), m.inputs()
			a, b := answerOf(interp.Run(w.d, p, inputs, fuel)), answerOf(interp.Run(w.o, p, inputs, fuel))
			wrong, _ := breach(m.c, v, w.level, a, b)
			came[wrong]++
		}
	}
	enough(t, came, 30, "another thing is told", "other tables", "what was told is no beginning")
}

// outs are what was told to the first channel, and then to those behind it.
func outs(first string, others ...string) []api.Out {
	var out []api.Out
	for i, text := range append(one(first), others...) {
		for _, row := range rowsOf(text) {
			for _, v := range row {
				out = append(out, api.Out{Channel: i, Value: v})
			}
		}
	}
	return out
}

// Answers put together by hand: what breaks a promise is told from what does not.
func TestBreach(t *testing.T) {
	of := "levels low, high; order low < high; channel out low; channel log high; table t rows low (a int low, b int high);"
	c, _ := parts(t, of, "")
	with := func(told []api.Out, err api.Errno, rows string) answer {
		d, _, _ := store.Load(c, tables(rows))
		return answer{d, told, err}
	}
	verdict := func(can bool, raise int) api.Verdict {
		return api.Verdict{Can: one(!can, can), Raise: one(1-raise, raise)}
	}
	can, seen, unseen := verdict(false, 0), verdict(true, 0), verdict(true, 1)
	for i, x := range []struct {
		v     api.Verdict
		a, b  answer
		wrong bool
	}{
		{can, with(outs("1"), api.OK, "1 2"), with(outs("1"), api.OK, "1 2"), false}, {can, with(outs("1", "2"), api.OK, "1 2"), with(outs("1", "3 4"), api.OK, "1 3"), false}, {can, with(outs("1"), api.OK, "1 2"), with(outs("2"), api.OK, "1 2"), true}, {can, with(outs("1"), api.OK, "1 2"), with(outs("1 1"), api.OK, "1 2"), true}, {can, with(outs("1"), api.OK, "1 2"), with(outs("1"), api.OK, "2 2"), true}, {can, with(nil, api.OK, ""), with(nil, api.OK, "2 2"), true},
		{can, with(nil, api.OK, ""), with(nil, api.ErrZero, ""), true}, {seen, with(nil, api.OK, ""), with(nil, api.ErrZero, ""), true}, {seen, with(nil, api.ErrKey, ""), with(nil, api.ErrZero, ""), true}, {seen, with(nil, api.ErrKey, ""), with(nil, api.ErrKey, ""), false}, {unseen, with(nil, api.OK, ""), with(nil, api.ErrZero, ""), false}, {unseen, with(outs("1"), api.OK, ""), with(nil, api.ErrZero, ""), true}, {unseen, with(nil, api.OK, "1 2"), with(nil, api.ErrZero, ""), true},
		{seen, with(outs("1"), api.ErrFuel, "1 2"), with(outs("1 2"), api.OK, ""), false}, {seen, with(outs("1 2"), api.OK, "1 2"), with(outs("1"), api.ErrRows, ""), false}, {seen, with(outs("1 2"), api.ErrFuel, "1 2"), with(outs("1"), api.OK, ""), true}, {seen, with(outs("2"), api.ErrFuel, "1 2"), with(outs("1 2"), api.OK, ""), true}, {seen, with(outs("1"), api.ErrZero, ""), with(outs("1 1"), api.ErrRows, ""), true}, {seen, with(outs("", "5"), api.ErrRows, ""), with(outs("1"), api.OK, ""), false},
		{seen, with(outs("1"), api.ErrFuel, ""), with(outs("2"), api.ErrRows, ""), false},
	} {
		for _, two := range one(one(x.a, x.b), one(x.b, x.a)) {
			wrong, held := breach(c, x.v, 0, two[0], two[1])
			check(t, i, wrong != "", x.wrong)
			check(t, i, held == "", x.wrong)
		}
	}
}
