package labels_test

import (
	"slices"
	"strings"
	"testing"

	"cordon/api"
	"cordon/labels"
	"cordon/lattice"
)

// levelsOf are all levels that a mark and a sheet tell.
func levelsOf(m api.Mark, s api.Sheet) []int {
	return append(one(m.Value, m.Raise, s.Rows, s.Raise), s.Cols...)
}

// bothOf are the mark and the sheet of what was made in a world.
func bothOf(w world, x made) (api.Mark, api.Sheet) {
	return labels.Node(w.c, w.vars, w.cols, x.n), labels.Plan(w.c, w.vars, x.p)
}

// What is told is levels; Raise is Bottom where nothing can be raised; there is a level of each column.
func TestLevels(t *testing.T) {
	madeIn(t, 20000, 4000, func(m *maker, x made) {
		mark, sheet := bothOf(m.world, x)
		l := m.c.Lattice()
		for _, level := range levelsOf(mark, sheet) {
			if !l.Leq(level, level) {
				t.Errorf("%d is no level", level)
			}
		}
		if !mark.Can && mark.Raise != l.Bottom() || !sheet.Can && sheet.Raise != l.Bottom() {
			t.Errorf("%v and %v raise nothing, above Bottom", mark, sheet)
		}
		if len(sheet.Cols) != x.p.Width {
			t.Errorf("%d columns, not %d", len(sheet.Cols), x.p.Width)
		}
	})
}

// higher is a level that stands above another one, or that itself.
func (m *maker) higher(level int) int { return pick(m.Rand, m.c.Lattice().Above(level)...) }

// raised is a world with higher levels of variables, of columns for expressions that stand alone, and of the columns of tables.
func (m *maker) raised(vars, cols, tables bool) world {
	w := m.world
	if vars {
		w.vars = numbered(len(m.vars), func(i int) api.Named { return api.Named{Name: m.vars[i].Name, Level: m.higher(m.vars[i].Level)} })
	}
	if cols {
		w.cols = numbered(len(m.cols), func(i int) int { return m.higher(m.cols[i]) })
	}
	if !tables {
		return w
	}
	w.s.Tables = slices.Clone(w.s.Tables)
	for i := range w.s.Tables {
		l := slices.Clone(w.s.Tables[i].Cols)
		for j := range l {
			l[j].Level = nameOf(m.c, m.higher(levelOf(m.c, l[j].Level)))
		}
		w.s.Tables[i].Cols = l
	}
	w.c = catalogFrom(w.s)
	return w
}

// notLower looks whether no level of a list stands lower than in another one, and tells whether one stands higher.
func notLower(t *testing.T, l *lattice.Lattice, was, is []int) bool {
	t.Helper()
	for i := range was {
		if len(was) != len(is) || !l.Leq(was[i], is[i]) {
			t.Errorf("%v is lower than %v", is, was)
			return false
		}
	}
	return !slices.Equal(was, is)
}

// P17.3: with higher levels of variables, of columns, of both, nothing is lower; whether something can be raised hangs on no level.
func TestMore(t *testing.T) {
	higher := map[string]int{}
	madeIn(t, 40000, 6000, func(m *maker, x made) {
		mark, sheet := bothOf(m.world, x)
		for name, w := range map[string]world{"variables": m.raised(true, false, false), "columns": m.raised(false, true, false), "tables": m.raised(false, false, true), "all": m.raised(true, true, true)} {
			markOf, sheetOf := bothOf(w, x)
			if mark.Can != markOf.Can || sheet.Can != sheetOf.Can {
				t.Errorf("%v and %v, %v and %v can't both raise", mark, markOf, sheet, sheetOf)
			}
			if notLower(t, m.c.Lattice(), levelsOf(mark, sheet), levelsOf(markOf, sheetOf)) {
				higher[name]++
			}
		}
	})
	enough(t, higher, 500, "variables", "columns", "tables", "all")
}

// P17.3, of the chapter's words: each level alone, from each level to each above it.
func TestMoreOfEach(t *testing.T) {
	texts := []string{"i + 1", "case when p then -i else ib end", "i in (select ia as x from t where p)", "(select -i as x from v)", "not p or -i = ia", ":va + i", "exists (select x as x from u where x > :va)"}
	for _, c := range ours() {
		l := c.Lattice()
		for _, text := range texts {
			n := nodeOf(t, c, text)
			was := labels.Node(c, ourVars(c), ourCols(c), n)
			for i, level := range ourCols(c) {
				for _, to := range l.Above(level) {
					cols := ourCols(c)
					cols[i] = to
					is := labels.Node(c, ourVars(c), cols, n)
					notLower(t, l, one(was.Value, was.Raise), one(is.Value, is.Raise))
				}
			}
			for i, v := range ourVars(c) {
				for _, to := range l.Above(v.Level) {
					vars := ourVars(c)
					vars[i].Level = to
					is := labels.Node(c, vars, ourCols(c), n)
					notLower(t, l, one(was.Value, was.Raise), one(is.Value, is.Raise))
				}
			}
		}
	}
}

// P17.4: where all is of one level, or Bottom, all is one of these.
func TestOne(t *testing.T) {
	came := map[string]int{}
	for seed := range 6000 {
		m := makerOf(60000 + seed)
		s := pick(m.Rand, lattices()...)
		level := pick(m.Rand, s.Levels...)
		m.inWorld(s, level, level, bottomOf(s))
		x, ok := m.made()
		if !ok {
			continue
		}
		mark, sheet := bothOf(m.world, x)
		for _, got := range levelsOf(mark, sheet) {
			switch got {
			case levelOf(m.c, level):
				came["the level"]++
			case m.c.Lattice().Bottom():
				came["Bottom"]++
			default:
				t.Fatalf("seed %d: %s, where all is %s or Bottom", seed, nameOf(m.c, got), level)
			}
		}
	}
	enough(t, came, 5000, "the level", "Bottom")
}

// P17.4, of one level alone: all is that, or Bottom, also where that is no Bottom.
func TestOneAlone(t *testing.T) {
	const levels = "levels b, high, low, a; order low < a < high; order low < b < high;"
	const tables = "table t rows L (i int L, j int L) hide L when true; table u rows L (i int L);"
	for _, level := range []string{"low", "a", "b", "high"} {
		c := catalogOf(levels + strings.ReplaceAll(tables, "L", level))
		vars := one(api.Named{Name: "va", Level: levelOf(c, level)})
		for _, two := range [][2]string{
			{"select i as x, -j as y from t where i > :va", "L: L L raises L"}, {"select count(*) as n, sum(i) as m, 1 as l from t", "low: L L low raises L"}, {"select t.i as x, 1 as y from t left join u on -1 = 1 order by x", "L: L low raises L"},
			{"select i as x from t union select j as x from t", "L: L"}, {"select distinct i as x from u where i in (select i as x from t)", "L: L"}, {"select :va as x, 1 as y", "low: L low"},
		} {
			check(t, two[0], sheetTold(c, labels.Plan(c, vars, planOf(t, c, two[0]))), strings.ReplaceAll(two[1], "L", level))
		}
	}
}
