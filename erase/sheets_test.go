package erase_test

import (
	"fmt"
	"slices"
	"testing"

	"cordon/algebra"
	"cordon/api"
	"cordon/engine"
	"cordon/erase"
	"cordon/labels"
	"cordon/schema"
	"cordon/store"
	"cordon/syntax"
)

// answer is what a query comes to.
type answer struct {
	rows [][]api.Value
	err  api.Errno
}

func asked(d *store.DB, vars []api.Bound, p api.Plan) answer {
	rows, err := engine.Rows(d, vars, p)
	return answer{rows, err}
}

func (a answer) String() string { return fmt.Sprint(rowsTold(a.rows), " ", int(a.err)) }

// breach is how two answers break what a sheet says of them, at a level at which sees tells what is seen; empty, if they do not. What it is that is held against each other is told, too.
func breach(s api.Sheet, sees func(level int) bool, a, b answer) (wrong, held string) {
	raised := a.err != api.OK || b.err != api.OK
	switch {
	case a.err == api.ErrRows || b.err == api.ErrRows:
		return "", "too many rows"
	case raised && !s.Can:
		return "one raises what it can't", ""
	case raised && !sees(s.Raise):
		return "", "raised where it is not seen"
	case a.err != b.err:
		return "unlike errors", ""
	case raised:
		return "", "the same error"
	case !sees(s.Rows):
		return "", "rows that are not seen"
	case len(a.rows) != len(b.rows):
		return "not as many rows", ""
	}
	held = "rows without values that are seen"
	for i, row := range a.rows {
		for j, v := range row {
			if !sees(s.Cols[j]) {
				continue
			}
			if v != b.rows[i][j] {
				return fmt.Sprint("unlike values in column ", j), ""
			}
			held = "values"
		}
	}
	return "", held
}

// plans makes some, over one world.
func (m *maker) plans(n int) []api.Plan {
	var out []api.Plan
	for range n {
		if p, ok := m.plan(); ok {
			out = append(out, p)
		}
	}
	return out
}

// P20.7, over schemas, stores, variables, queries and levels that are made in a loop.
func TestSheetsHold(t *testing.T) {
	came, unlike := map[string]int{}, map[string]int{}
	madeIn(t, 100000, 1200, func(m *maker) {
		d, plans := m.store(6), m.plans(20)
		for level := range m.s.Levels {
			sees := func(of int) bool { return m.sees(level, m.s.Levels[of]) }
			for _, o := range one(m.alike(d, level), erase.Mix(d, m.store(6), level)) {
				checkIs(t, "the same", erase.Same(d, o, level), true)
				for _, p := range plans {
					vars, sheet := m.bound(level, nil), labels.Plan(m.c, m.vars, p)
					a, b := asked(d, vars, p), asked(o, m.bound(level, vars), p)
					wrong, held := breach(sheet, sees, a, b)
					if wrong != "" {
						t.Errorf("%s at %s, by %v: %v and %v of %s and %s", wrong, m.s.Levels[level], sheet, a, b, storeTold(d), storeTold(o))
					}
					came[held]++
					if a.err != b.err || !slices.EqualFunc(a.rows, b.rows, slices.Equal) {
						unlike[held]++
					}
				}
			}
		}
	})
	enough(t, came, 10000, "values", "rows without values that are seen", "rows that are not seen")
	enough(t, came, 1000, "the same error", "raised where it is not seen")
	enough(t, unlike, 500, "values", "rows without values that are seen", "rows that are not seen", "raised where it is not seen")
}

// asking are queries of each kind over our tables, and variables of each level.
func asking() []string {
	return []string{
		"select 1 as x", "select i as x, x as y, y as z, z as w from t", "select k as x, f as y, s as z from h", "select k as x, f as y, s as z from h visible", "select n as x, p as y from m", "select n as x, p as y from m visible",
		"select k as x, v as y, w as z from u", "select n as x, q as y from g", "select n as x from g visible", "select c as x, d as y from n", "select count(*) as x from n", "select count(*) as x from h", "select count(*) as x from h visible",
		"select i as x from t where x > 1", "select i as x from t where z", "select i as x from t where y = 'x'", "select i as x, 7 / x as y from t", "select i as x from t where 7 / x > 1", "select -i as x from t", "select k as x from h where s is null",
		"select t.i as x, h.k as y, h.s as z from t join h on t.i = h.k", "select t.i as x, h.k as y from t left join h visible on t.i = h.k", "select t.i as x, u.v as y from t left join u on t.i = u.k", "select t.i as x from t join m visible on m.n > t.i", "select t.i as x from t join n on true",
		"select n as x, count(*) as y, sum(p) as z from m group by n", "select n as x, max(p) as y from m visible group by n having count(*) > 1", "select p as x, count(*) as y from m visible group by p", "select sum(n) as x, min(p) as y from m", "select sum(i) as x, max(x) as y, count(z) as w from t",
		"select distinct n as x from m", "select distinct n as x, p as y from m visible", "select k as x from h visible order by -x", "select i as x, x as y from t order by y desc", "select i as x from t order by x desc limit 1", "select k as x from h limit 1",
		"select i as x from t union select k as x from h visible", "select i as x from t union all select k as x from h", "select k as x from h visible except select k as x from h", "select n as x from m intersect select n as x from m visible", "select i as x from t union all select x as x from t",
		"select i as x from t where exists (select k as k from h where f)", "select i as x from t where i in (select k as k from h visible)", "select i as x from t where x not in (select v as v from u)", "select (select i as i from t where x = 2) as x", "select (select k as k from h) as x", "select (select count(*) as c from h) as x, i as y from t",
		"select case when z then i else 0 end as x from t", "select case when z then 7 / x else 0 end as x from t", "select q.x as x from (select i as x, z as z from t) as q where q.z is not null", "select y || y as x from t", "select :l as x, :a as y, :b as z, :h as w", "select i as x from t where i > :a", "select i + :h as x from t", "select 7 / :b as x from m visible",
	}
}

// ourVars are variables of each level.
func ourVars(c *schema.Catalog) []api.Named {
	return one(api.Named{Name: "l", Level: levelOf(c, "low")}, api.Named{Name: "a", Level: levelOf(c, "a")}, api.Named{Name: "b", Level: levelOf(c, "b")}, api.Named{Name: "h", Level: levelOf(c, "high")})
}

// otherRows are some with which ourRows can be mixed.
func otherRows() []string {
	return []string{ourOther, ourRows, "||||| ", "7 7 'q' false | 7 7 7 | 7 true 'q' | 7 7; -7 7; -7 7 | 7 7 | 7 'q'", "9 0 'y' true; 8 0 'x' null | 2 0 0; 1 0 null; 5 5 5 | 4 true null; 2 true 'q'; 1 true 's' | -1 0; -2 null | 0 0 | null ''; 0 'x'"}
}

// P20.7, of queries of each kind over our tables.
func TestSheetsHoldOfOurs(t *testing.T) {
	typed := numbered(4, func(i int) api.Var { return api.Var{Name: one("l", "a", "b", "h")[i], Type: api.TyInt} })
	came := map[string]int{}
	for _, c := range ours() {
		d := ourStore(c)
		var others []*store.DB
		for _, rows := range otherRows() {
			others = append(others, storeOf(c, split(rows)...))
		}
		for _, text := range asking() {
			q, at, errNo := syntax.Query(text)
			p, err := algebra.Plan(c, typed, q)
			if errNo != api.OK || err != api.OK {
				t.Fatalf("%s: %d %v %v", text, at, errNo, err)
			}
			sheet := labels.Plan(c, ourVars(c), p)
			for level := range 4 {
				sees := func(of int) bool { return c.Lattice().Leq(of, level) }
				for n, o := range others {
					var va, vb []api.Bound
					for i, v := range ourVars(c) {
						va = append(va, api.Bound{Name: v.Name, Value: one(val("0"), val("1"), val("2"), val("null"))[(n+i)%4]})
						vb = append(vb, va[i])
						if !sees(v.Level) {
							vb[i].Value = one(val("3"), val("null"), val("0"), val("1"))[(n+i)%4]
						}
					}
					a, b := asked(d, va, p), asked(erase.Mix(d, o, level), vb, p)
					wrong, held := breach(sheet, sees, a, b)
					check(t, text+" at "+c.Lattice().Levels()[level], wrong, "")
					came[held]++
				}
			}
		}
	}
	enough(t, came, 20, "values", "rows without values that are seen", "rows that are not seen", "the same error", "raised where it is not seen")
}

// A sheet that says too little is told from one that holds: so breach looks at each part of it.
func TestBreach(t *testing.T) {
	all, none := func(int) bool { return true }, func(int) bool { return false }
	low := func(level int) bool { return level == 0 }
	rows := func(text string) answer { return answer{rows: rowsOf(text)} }
	for _, x := range []struct {
		s     api.Sheet
		sees  func(int) bool
		a, b  answer
		wrong bool
	}{
		{api.Sheet{Cols: one(0, 1)}, all, rows("1 2; 3 4"), rows("1 2; 3 4"), false}, {api.Sheet{Cols: one(0, 1)}, low, rows("1 2; 3 4"), rows("1 5; 3 6"), false}, {api.Sheet{Cols: one(0, 1)}, all, rows("1 2; 3 4"), rows("1 2; 3 5"), true},
		{api.Sheet{Cols: one(0, 0)}, low, rows("1 2"), rows("1 5"), true}, {api.Sheet{Cols: one(0, 1)}, low, rows("1 2"), rows("1 2; 3 4"), true}, {api.Sheet{Rows: 1, Cols: one(0, 1)}, low, rows("1 2"), rows("3 4; 5 6"), false},
		{api.Sheet{}, all, answer{err: api.ErrOver}, answer{err: api.ErrOver}, true}, {api.Sheet{Can: true}, all, answer{err: api.ErrOver}, answer{err: api.ErrOver}, false}, {api.Sheet{Can: true}, all, answer{err: api.ErrOver}, answer{err: api.ErrZero}, true},
		{api.Sheet{Can: true}, low, rows("1"), answer{err: api.ErrZero}, true}, {api.Sheet{Can: true, Raise: 1}, low, rows("1"), answer{err: api.ErrZero}, false}, {api.Sheet{Can: true}, none, answer{err: api.ErrZero}, rows("1"), false},
		{api.Sheet{}, all, answer{err: api.ErrRows}, rows("1"), false}, {api.Sheet{}, all, rows("1"), answer{err: api.ErrRows}, false},
	} {
		wrong, _ := breach(x.s, x.sees, x.a, x.b)
		checkIs(t, fmt.Sprint(x.s, x.a, x.b), wrong != "", x.wrong)
	}
}
