package audit_test

import (
	"fmt"
	"math"
	"math/rand"
	"slices"
	"strings"
	"testing"

	"cordon/api"
	"cordon/schema"
	"cordon/store"
	"cordon/value"
)

// lattices: of one level, of two, of levels that stand beside one another, and such where Bottom is not the first.
func lattices() []api.Schema {
	of := func(levels string, edges ...string) api.Schema {
		return api.Schema{Levels: strings.Fields(levels), Edges: numbered(len(edges), func(i int) api.Pair {
			both := strings.Fields(edges[i])
			return api.Pair{Low: both[0], High: both[1]}
		})}
	}
	return one(
		of("one"), of("low high", "low high"), of("high low", "low high"), of("b c a d", "a b", "b c", "c d"),
		of("low a b high", "low a", "low b", "a high", "b high"), of("a high low b", "low a", "low b", "a high", "b high"),
		of("a b c high low", "low a", "low b", "low c", "a high", "b high", "c high"), of("top x y z o", "o x", "x y", "o z", "y top", "z top"),
	)
}

// bare are the tables of all worlds, without levels. A column's name begins with a letter of its type; i1 stands in two tables.
func bare() []api.Table {
	of := func(name, cols string) api.Table {
		names := strings.Fields(cols)
		return api.Table{Name: name, Cols: numbered(len(names), func(i int) api.Col {
			return api.Col{Name: names[i], Type: strings.IndexByte(letters, names[i][0])}
		})}
	}
	return one(of("t", "i1 b1 s1"), of("u", "i1 s2"), of("v", "b2 b3 i2 i3"), of("w", "s3"))
}

const letters = "nbis" // by type

func pick[T any](rnd *rand.Rand, l ...T) T { return l[rnd.Intn(len(l))] }

// world is what stores and queries are made over: a schema, and of each table which of its rows are hidden.
type world struct {
	s     api.Schema
	c     *schema.Catalog
	hides []func(row []api.Value) bool
}

type maker struct {
	*rand.Rand
	world
	count int
}

// makerOf makes a world of a lattice of any kind. Bottom comes more often than others, as all sees it.
func makerOf(seed int) *maker {
	m := &maker{Rand: rand.New(rand.NewSource(int64(seed)))}
	s := pick(m.Rand, lattices()...)
	levels := slices.Clone(s.Levels)
	for range m.Intn(2 * len(levels)) {
		levels = append(levels, bottomOf(s))
	}
	s.Tables, s.Limit = bare(), pick(m.Rand, 0, 1, 2, 3, 5, 8)
	for i := range s.Tables {
		m.hides = append(m.hides, m.furnish(s, &s.Tables[i], levels))
	}
	s.Channels, s.Principals = m.named("c", s.Levels), m.named("p", s.Levels)
	m.s, m.c = s, catalogFrom(s)
	return m
}

// named are names, in any order, with levels; now and then none, else often one of each level, and several of the same one.
func (m *maker) named(letter string, levels []string) []api.Pair {
	n := pick(m.Rand, 0, 1, 4, 8, 12)
	of := m.Perm(n)
	return numbered(n, func(i int) api.Pair {
		return api.Pair{Low: fmt.Sprint(letter, of[i]), High: pick(m.Rand, levels...)}
	})
}

// bottomOf is the level that stands below all.
func bottomOf(s api.Schema) string {
	for _, low := range s.Levels {
		if !slices.ContainsFunc(s.Levels, func(high string) bool { return !reaches(s, low, high) }) {
			return low
		}
	}
	panic("no lattice")
}

// reaches tells whether a level stands below another one, as edges lead from the one to the other.
func reaches(s api.Schema, low, high string) bool {
	return low == high || slices.ContainsFunc(s.Edges, func(e api.Pair) bool { return e.Low == low && reaches(s, e.High, high) })
}

// furnish gives a table levels, and perhaps a key and hidden rows; what it tells is which rows are hidden.
func (m *maker) furnish(s api.Schema, t *api.Table, levels []string) func(row []api.Value) bool {
	t.Rows = pick(m.Rand, levels...)
	var low []int // the columns that a key, or a predicate, may name
	for i := range t.Cols {
		t.Cols[i].Level, t.Cols[i].Null = pick(m.Rand, levels...), m.Intn(3) > 0
		if reaches(s, t.Cols[i].Level, t.Rows) {
			low = append(low, i)
		}
	}
	if len(low) > 0 && m.Intn(2) == 0 {
		for _, i := range m.Perm(len(low))[:1+m.Intn(len(low))] {
			t.Key = append(t.Key, t.Cols[low[i]].Name)
		}
	}
	hide := pick(m.Rand, s.Levels...)
	if m.Intn(3) == 0 || !reaches(s, t.Rows, hide) {
		return func([]api.Value) bool { return false }
	}
	x, is := m.predicate(t.Cols, low, 2)
	t.Hide, t.When = hide, one(x)
	return is
}

// predicate makes one of the columns at some places, and tells of which rows it is true.
func (m *maker) predicate(cols []api.Col, low []int, deep int) (api.Expr, func(row []api.Value) bool) {
	if deep > 0 && m.Intn(3) == 0 {
		x, isX := m.predicate(cols, low, deep-1)
		y, isY := m.predicate(cols, low, deep-1)
		if m.Intn(2) == 0 {
			return api.Expr{Kind: api.ExBin, S: "or", Kids: one(x, y)}, func(row []api.Value) bool { return isX(row) || isY(row) }
		}
		return api.Expr{Kind: api.ExBin, S: "and", Kids: one(x, y)}, func(row []api.Value) bool { return isX(row) && isY(row) }
	}
	if len(low) == 0 || m.Intn(12) == 0 {
		x := pick(m.Rand, api.Expr{Kind: api.ExBool, N: 1}, api.Expr{Kind: api.ExBool}, api.Expr{Kind: api.ExNull})
		return x, func([]api.Value) bool { return x.N == 1 }
	}
	at := pick(m.Rand, low...)
	col := api.Expr{Kind: api.ExCol, S: cols[at].Name}
	if m.Intn(4) == 0 {
		not := m.Intn(2)
		return api.Expr{Kind: api.ExIs, N: not, Kids: one(col)}, func(row []api.Value) bool { return (row[at].Type == api.TyNull) == (not == 0) }
	}
	switch cols[at].Type {
	case api.TyBool:
		return col, func(row []api.Value) bool { return row[at].Type == api.TyBool && row[at].N == 1 }
	case api.TyInt:
		return api.Expr{Kind: api.ExBin, S: "<", Kids: one(col, api.Expr{Kind: api.ExInt, N: 1})}, func(row []api.Value) bool { return row[at].Type == api.TyInt && row[at].N < 1 }
	}
	return api.Expr{Kind: api.ExBin, S: "=", Kids: one(col, api.Expr{Kind: api.ExText, S: "a"})}, func(row []api.Value) bool { return row[at].Type == api.TyText && row[at].S == "a" }
}

func (m *maker) value(kind int) api.Value {
	return one(value.Null(), value.Bool(m.Intn(2) == 0), value.Int(pick(m.Rand, -1, 0, 0, 1, 1, 2, 3, 3, math.MaxInt)), value.Text(pick(m.Rand, "", "a", "a", "b", "ab", strings.Repeat("s", 501))))[kind]
}

// cell makes a value that fits a column.
func (m *maker) cell(col api.Col) api.Value {
	if col.Null && m.Intn(4) == 0 {
		return value.Null()
	}
	return m.value(col.Type)
}

func (m *maker) row(t int) []api.Value {
	cols := m.s.Tables[t].Cols
	return numbered(len(cols), func(i int) api.Value { return m.cell(cols[i]) })
}

// store makes one of so many rows a table at the most.
func (m *maker) store(most int) *store.DB {
	d := store.New(m.c)
	for t := range m.s.Tables {
		for range m.Intn(most + 1) {
			d.Add(t, m.row(t))
		}
	}
	return d
}

// alike makes a store that is seen as another one: all that is not seen of it may be otherwise.
func (m *maker) alike(d *store.DB, level int) *store.DB {
	out := m.store(6)
	for t := range m.s.Tables {
		if m.sees(level, m.s.Tables[t].Rows) {
			out.Put(t, nil)
			if err := out.Put(t, m.alikeRows(d, t, level)); err != api.OK {
				panic(err)
			}
		}
	}
	return out
}

// alikeRows are a table's rows that are seen as another one's, with hidden rows at any places.
func (m *maker) alikeRows(d *store.DB, t, level int) [][]api.Value {
	var l [][]api.Value
	for _, row := range d.Rows(t) {
		if m.hiddenAt(t, row, level) {
			continue
		}
		for i, col := range m.s.Tables[t].Cols {
			if !m.sees(level, col.Level) && m.Intn(3) > 0 {
				row[i] = m.cell(col)
			}
		}
		l = append(l, row)
	}
	trial := store.New(m.c)
	for range m.Intn(8) {
		row := m.row(t)
		more := slices.Insert(slices.Clone(l), m.Intn(len(l)+1), row)
		if m.hiddenAt(t, row, level) && trial.Put(t, more) == api.OK {
			l = more
		}
	}
	return l
}

// enough looks whether each of some things came often enough.
func enough(t *testing.T, got map[string]int, least int, names ...string) {
	t.Helper()
	for _, name := range names {
		if got[name] < least {
			t.Errorf("%s came %d times, of %v", name, got[name], got)
		}
	}
}
