package labels_test

import (
	"math"
	"testing"

	"cordon/api"
	"cordon/labels"
	"cordon/schema"
)

func TestSignatures(t *testing.T) {
	var _ func(c *schema.Catalog, t, i int) int = labels.Column
	var _ func(c *schema.Catalog, t int) int = labels.Exists
	var _ func(c *schema.Catalog, vars []api.Named, cols []int, n api.Node) api.Mark = labels.Node
	var _ func(c *schema.Catalog, vars []api.Named, p api.Plan) api.Sheet = labels.Plan
}

// P17.1: a column's level is its own and that of its table's rows, together; Hide is not in it.
func TestColumn(t *testing.T) {
	for _, c := range ours() {
		for table, want := range [][]string{
			tableT: {"low", "a", "b", "high", "low", "a", "b", "high", "low", "a"},
			tableU: {"a", "a", "high", "high"},
			tableV: {"low", "b"},
			tableM: {"a", "a"},
			tableK: {"b"},
		} {
			for i, name := range want {
				check(t, [2]int{table, i}, nameOf(c, labels.Column(c, table, i)), name)
			}
			for _, i := range []int{-1, len(want), math.MaxInt, math.MinInt} {
				check(t, [2]int{table, i}, nameOf(c, labels.Column(c, table, i)), "-1")
			}
		}
	}
}

// P17.1: a table exists at its rows' level and Hide, together.
func TestExists(t *testing.T) {
	for _, c := range ours() {
		for table, want := range []string{tableT: "low", tableU: "a", tableV: "b", tableM: "high", tableK: "b"} {
			check(t, table, nameOf(c, labels.Exists(c, table)), want)
		}
	}
}

// P17.1: places of tables that are not there.
func TestNoTable(t *testing.T) {
	for _, c := range append(ours(), catalogOf("levels low;")) {
		for _, table := range []int{-1, len(c.Tables()), math.MaxInt, math.MinInt} {
			check(t, table, nameOf(c, labels.Exists(c, table)), "-1")
			for _, i := range []int{-1, 0, 1, math.MaxInt} {
				check(t, table, nameOf(c, labels.Column(c, table, i)), "-1")
			}
		}
	}
}

// P17.1 and P17.2: no catalog, and one that no call made.
func TestNoCatalog(t *testing.T) {
	c := ours()[2] // a plan for it has levels other than 0
	for _, none := range []*schema.Catalog{nil, {}} {
		for table := -1; table < 3; table++ {
			if got := labels.Exists(none, table); got != -1 {
				t.Errorf("Exists of %d: %d", table, got)
			}
			for i := -1; i < 3; i++ {
				if got := labels.Column(none, table, i); got != -1 {
					t.Errorf("Column %d of %d: %d", i, table, got)
				}
			}
		}
		for _, n := range []api.Node{{}, {Kind: api.ExInt, N: 1}, {Kind: api.ExVar, S: "vh"}, at(3), neg(3), nodeOf(t, c, "(select x + 1 as x from u)")} {
			if got := labels.Node(none, ourVars(c), ourCols(c), n); got != (api.Mark{}) {
				t.Errorf("%v: %v", n, got)
			}
		}
		for _, p := range []api.Plan{{}, {Kind: api.PlOne}, scan(0), planOf(t, c, "select sum(x + 1) as x from u"), planOf(t, c, "select w as x from u")} {
			if got := labels.Plan(none, ourVars(c), p); got.Rows != 0 || len(got.Cols) > 0 || got.Raise != 0 || got.Can {
				t.Errorf("%v: %v", p, got)
			}
		}
	}
}

// Lattices of one level, of two, and one where Bottom is the second.
func TestFewLevels(t *testing.T) {
	const query = "select i + j as x, j as y from q where i > 0"
	for _, l := range []struct {
		schema            string
		exists, column, p string
	}{
		{"levels low; table q rows low (i int low, j int low) hide low when true;", "low", "low", "low: low low raises low"},
		{"levels low, high; order low < high; table q rows low (i int low, j int high) hide high when true;", "high", "high", "high: high high raises high"},
		{"levels high, low; order low < high; table q rows low (i int low, j int high);", "low", "high", "low: high high raises high"},
		{"levels high, low; order low < high; table q rows low (i int high, j int low);", "low", "low", "high: high low raises high"},
		{"levels high, low; order low < high; table q rows high (i int low, j int low);", "high", "high", "high: high high raises high"},
	} {
		c := catalogOf(l.schema)
		check(t, l.schema, nameOf(c, labels.Exists(c, 0)), l.exists)
		check(t, l.schema, nameOf(c, labels.Column(c, 0, 1)), l.column)
		check(t, l.schema, nameOf(c, labels.Plan(c, nil, scan(0)).Rows), l.exists)
		check(t, l.schema, sheetTold(c, labels.Plan(c, nil, planOf(t, c, query))), l.p)
	}
}

// The chapter's example.
func TestExample(t *testing.T) {
	c := catalogOf("levels low, high; order low < high; table t rows low (a int low, b int high);")
	check(t, "the example", sheetTold(c, labels.Plan(c, nil, planOf(t, c, "select a as x from t where b > 0"))), "high: low")
}
