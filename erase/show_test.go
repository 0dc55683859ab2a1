package erase_test

import (
	"strings"
	"testing"

	"cordon/api"
	"cordon/erase"
	"cordon/schema"
	"cordon/store"
)

func TestSignatures(t *testing.T) {
	var _ func(d *store.DB, level int) []api.View = erase.Show
	var _ func(a, b *store.DB, level int) bool = erase.Same
	var _ func(d, o *store.DB, level int) *store.DB = erase.Mix
	var _ func(c *schema.Catalog, l []api.Out, level int) []api.Out = erase.Outs
}

// The chapter's example.
func TestExample(t *testing.T) {
	for _, c := range two("table t rows low (a int low, b int high);") {
		d := storeOf(c, "1 5")
		check(t, "low", showTold(d, levelOf(c, "low")), "+-: 1 null")
		check(t, "high", showTold(d, levelOf(c, "high")), "++: 1 5")
	}
}

// P20.1, of all tables, at each level.
func TestShow(t *testing.T) {
	const hLow = "++-: 2 null null; 1 false null; 4 false null"
	for level, want := range map[string][]string{
		"low": {"+---: 1 null null null; 2 null null null", "nothing", hLow, "+-: 3 null; 3 null; 5 null", "nothing", "--: null null; null null; null null"},
		"a":   {"++--: 1 2 null null; 2 null null null", "++-: 1 5 null; 2 null null", hLow, "+-: 3 null; -1 null; 3 null; -1 null; 5 null", "nothing", "+-: 1 null; null null; 1 null"},
		"b":   {"+-+-: 1 null 'x' null; 2 null 'y' null", "nothing", hLow, "++: 3 7; 3 7; 5 null", "+-: 0 null; 4 null; 0 null", "--: null null; null null; null null"},
		"high": {"++++: 1 2 'x' true; 2 null 'y' null", "+++: 1 5 6; 2 null null", "+++: 1 true 'p'; 2 null 'q'; 1 false null; 3 true 'r'; 4 false 's'; 5 true null",
			"++: 3 7; -1 8; 3 7; -1 8; 5 null", "++: 0 1; 4 2; 0 3", "++: 1 'x'; null 'y'; 1 'x'"},
	} {
		for _, c := range ours() {
			check(t, level, showTold(ourStore(c), levelOf(c, level)), strings.Join(want, " | "))
		}
	}
}

// P20.1: tables without rows are seen, or not, as others are.
func TestShowWithoutRows(t *testing.T) {
	for level, want := range map[string]string{
		"low": "+---: | nothing | ++-: | +-: | nothing | --:", "a": "++--: | ++-: | ++-: | +-: | nothing | +-:",
		"b": "+-+-: | nothing | ++-: | ++: | +-: | --:", "high": "++++: | +++: | +++: | ++: | ++: | ++:",
	} {
		for _, c := range ours() {
			check(t, level, showTold(store.New(c), levelOf(c, level)), want)
		}
	}
}

// P20.1: at what is no level nothing is seen, not even what stands at Bottom; but there is a view of each table.
func TestShowAtNoLevel(t *testing.T) {
	for _, c := range ours() {
		for _, level := range noLevels(c) {
			check(t, level, showTold(ourStore(c), level), "nothing | nothing | nothing | nothing | nothing | nothing")
		}
	}
}

// P20.1: just the tables say how many views there are; without tables there are none.
func TestShowWithoutTables(t *testing.T) {
	for _, text := range []string{"levels low;", "levels low; channel out low; principal ann low;"} {
		c := catalogOf(text)
		for _, level := range append(noLevels(c), 0) {
			if got := erase.Show(store.New(c), level); len(got) > 0 {
				t.Errorf("%d: %v", level, got)
			}
		}
	}
}

// shows holds a store of one table, in lattices of two levels, to what is seen of it at both.
func shows(t *testing.T, table, rows, low, high string) {
	t.Helper()
	for _, c := range two(table) {
		d := storeOf(c, rows)
		check(t, table, showTold(d, levelOf(c, "low")), low)
		check(t, table, showTold(d, levelOf(c, "high")), high)
	}
}

// P20.1: which columns are seen. A column's level is its own and that of its rows, together: so none is seen where these are not.
func TestShowColumns(t *testing.T) {
	shows(t, "table t rows low (a int low, b int null low);", "1 2; 3 null", "++: 1 2; 3 null", "++: 1 2; 3 null")
	shows(t, "table t rows low (a int high, b int null low);", "1 2; 3 null", "-+: null 2; null null", "++: 1 2; 3 null")
	shows(t, "table t rows low (a int high, b int null high);", "1 2; 3 null", "--: null null; null null", "++: 1 2; 3 null")
	shows(t, "table t rows high (a int low, b int null low);", "1 2; 3 null", "nothing", "++: 1 2; 3 null")
	shows(t, "table t rows high (a int low, b int null high);", "1 2; 3 null", "nothing", "++: 1 2; 3 null")
	shows(t, "table t rows high (a bool high);", "", "nothing", "+:")
	shows(t, "table t rows low (a bool high, b text low);", "true 'x'; false ''", "-+: null 'x'; null ''", "++: true 'x'; false ''")
}

// P20.1: which rows are hidden at a level: those that are hidden, where Hide is not seen.
func TestShowHidden(t *testing.T) {
	const rows = "-1 1; 2 2; -1 1; 3 null; 2 2; -4 4"
	shows(t, "table t rows low (a int low, b int null high) hide high when a < 0;", rows, "+-: 2 null; 3 null; 2 null", "++: "+rows)
	shows(t, "table t rows low (a int low, b int null high) hide low when a < 0;", rows, "+-: -1 null; 2 null; -1 null; 3 null; 2 null; -4 null", "++: "+rows)
	shows(t, "table t rows low (a int low, b int null high);", rows, "+-: -1 null; 2 null; -1 null; 3 null; 2 null; -4 null", "++: "+rows)
	shows(t, "table t rows high (a int low, b int null high) hide high when a < 0;", rows, "nothing", "++: "+rows)
	shows(t, "table t rows low (a int low, b int null low) hide high when b = 4;", rows, "++: -1 1; 2 2; -1 1; 3 null; 2 2", "++: "+rows) // null = 4 is null
	shows(t, "table t rows low (a int low, b int null low) hide high when not (b = 4);", rows, "++: 3 null; -4 4", "++: "+rows)
	shows(t, "table t rows low (a int low, b int null low) hide high when b is null;", rows, "++: -1 1; 2 2; -1 1; 2 2; -4 4", "++: "+rows)
	shows(t, "table t rows low (a int low, b int null high) hide high when true;", rows, "+-:", "++: "+rows)
	shows(t, "table t rows low (a int low, b int null low) hide high when false;", rows, "++: "+rows, "++: "+rows)
	shows(t, "table t rows low (a int low, b int null low) hide high when null;", rows, "++: "+rows, "++: "+rows)
	shows(t, "table t rows low (a int low, b int null high) hide high when a < 0;", "-1 1; -2 2", "+-:", "++: -1 1; -2 2")
}

// P20.1: rows stand in order, whatever they are, also where the same one stands there twice, and where two are seen as the same.
func TestShowOrder(t *testing.T) {
	shows(t, "table t rows low (a int low, b int high);", "3 1; 1 2; 3 1; 2 5; 1 2; 3 7", "+-: 3 null; 1 null; 3 null; 2 null; 1 null; 3 null", "++: 3 1; 1 2; 3 1; 2 5; 1 2; 3 7")
	shows(t, "table t rows low (a int low, b int high) key (a);", "3 1; 1 2; 2 5", "+-: 3 null; 1 null; 2 null", "++: 3 1; 1 2; 2 5")
}

// P20.1, of one level alone: all is seen.
func TestShowOneLevel(t *testing.T) {
	c := catalogOf("levels only; table t rows only (a int only, b int null only) key (a) hide only when a = 1;")
	d := storeOf(c, "2 5; 1 null; 3 7")
	check(t, "the level", showTold(d, 0), "++: 2 5; 1 null; 3 7")
	for _, level := range noLevels(c) {
		check(t, level, showTold(d, level), "nothing")
	}
}

// P20.1, of as many levels as there may be, each above the next one, and of as many columns, tables and rows.
func TestShowMany(t *testing.T) {
	name := func(i int) string { return string(rune('a' + i)) }
	s := api.Schema{Levels: numbered(api.MaxLevels, name)}
	for i := range api.MaxLevels - 1 {
		s.Edges = append(s.Edges, api.Pair{Low: name(i + 1), High: name(i)})
	}
	for i := range api.MaxTables {
		s.Tables = append(s.Tables, api.Table{Name: "t" + name(i), Rows: name(i % api.MaxLevels), Cols: numbered(api.MaxCols, func(j int) api.Col {
			return api.Col{Name: "c" + name(j/26) + name(j%26), Type: api.TyInt, Level: name(j % api.MaxLevels)}
		})})
	}
	c := catalogFrom(s)
	d := store.New(c)
	for i := range api.MaxTables {
		for n := range api.MaxRows {
			d.Add(i, numbered(api.MaxCols, func(j int) api.Value { return val("1" + string(rune('0'+(i+j+n)%10))) }))
		}
	}
	for level := range api.MaxLevels {
		views := erase.Show(d, level)
		for i, v := range views {
			rows := i % api.MaxLevels // a greater number stands lower
			if v.Seen != (rows >= level) || v.Seen && (len(v.Cols) != api.MaxCols || len(v.Rows) != api.MaxRows) || !v.Seen && len(v.Cols)+len(v.Rows) > 0 {
				t.Fatalf("table %d at %d: %v, %d columns, %d rows", i, level, v.Seen, len(v.Cols), len(v.Rows))
			}
			for j, seen := range v.Cols {
				if want := j%api.MaxLevels >= level; seen != want || (v.Rows[99][j] == api.Value{}) == want {
					t.Fatalf("column %d of table %d at %d: %v", j, i, level, seen)
				}
			}
		}
		if len(views) != api.MaxTables {
			t.Fatalf("%d views", len(views))
		}
	}
}

// P20.1 and P1, of nil, and of a store that no call made: nothing.
func TestShowOfNil(t *testing.T) {
	for _, none := range noStores() {
		for level := -2; level < 6; level++ {
			if got := erase.Show(none, level); len(got) > 0 {
				t.Errorf("%v", got)
			}
		}
	}
}
