package audit_test

import (
	"fmt"
	"strings"
	"testing"

	"cordon/api"
	"cordon/audit"
)

// P22.1 (Reads): tables whose rows are seen and are not, with columns of which all, some and none are open.
func TestReads(t *testing.T) {
	for level, want := range map[string]string{
		"low":  "t.i h.k h.f m.n",
		"a":    "t.i t.x u.k u.v h.k h.f m.n n.c",
		"b":    "t.i t.y h.k h.f m.n m.p g.n",
		"high": "t.i t.x t.y t.z u.k u.v u.w h.k h.f h.s m.n m.p g.n g.q n.c n.d",
	} {
		for _, c := range ours() {
			for _, who := range ourPeople()[level] {
				check(t, who, grantsTold(audit.Reads(c, who)), want)
			}
		}
	}
}

// P22.1 (Reads): the level of a column hangs on that of its table's rows, and not on Hide, nor on the key.
func TestReadsByRows(t *testing.T) {
	const people = "principal up high; principal down low;"
	for _, x := range []struct{ table, down, up string }{
		{"table t rows low (a int low, b int high)", "t.a", "t.a t.b"},
		{"table t rows low (a int high, b int low)", "t.b", "t.a t.b"},
		{"table t rows low (a int low, b int low)", "t.a t.b", "t.a t.b"},
		{"table t rows low (a int high, b int high)", "", "t.a t.b"},
		{"table t rows high (a int low, b int low)", "", "t.a t.b"},
		{"table t rows high (a int low, b int high)", "", "t.a t.b"},
		{"table t rows high (a int high, b int high)", "", "t.a t.b"},
	} {
		for _, key := range []string{"", "key (a)"} {
			for _, hide := range []string{"", "hide high when true", "hide high when null", "hide low when true", "hide high when a = 1"} {
				low := strings.Contains(x.table, "rows low")
				if low && strings.Contains(x.table, "a int high") && (key != "" || strings.Contains(hide, "a =")) || !low && strings.Contains(hide, "hide low") {
					continue // there is no such table
				}
				for _, c := range two(people + fmt.Sprintf("%s %s %s;", x.table, key, hide)) {
					check(t, x.table+key+hide, grantsTold(audit.Reads(c, "down")), x.down)
					check(t, x.table+key+hide, grantsTold(audit.Reads(c, "up")), x.up)
				}
			}
		}
	}
}

// P22.1 (Reads): tables and columns stand as the catalog has them, whatever their names are, and which are open.
func TestReadsInOrder(t *testing.T) {
	const text = "table z rows low (d int low, c int high, b int low, a int low); table y rows high (d int low); table a rows low (z int high, a int low); table m rows low (m int low);" +
		"principal z low; principal a high;"
	for _, c := range two(text) {
		check(t, "low", grantsTold(audit.Reads(c, "z")), "z.d z.b z.a a.a m.m")
		check(t, "high", grantsTold(audit.Reads(c, "a")), "z.d z.c z.b z.a y.d a.z a.a m.m")
	}
}

// P22.1 (Reads): levels of which neither stands below the other see nothing of one another, nor of what is of both.
func TestReadsBeside(t *testing.T) {
	const text = "order low < a < high; order low < b < high; order low < c < high;" +
		"table ab rows a (x int a, y int b, z int low, h int high); table ba rows b (x int a, y int b, z int low); table l rows low (a int a, b int b, c int c);" +
		"principal pa a; principal pb b; principal pc c; principal ph high; principal pl low;"
	for _, levels := range []string{"low, a, b, c, high", "high, c, b, a, low", "b, low, high, c, a"} {
		c := catalogOf("levels " + levels + ";" + text)
		for who, want := range map[string]string{
			"pl": "", "pa": "ab.x ab.z l.a", "pb": "ba.y ba.z l.b", "pc": "l.c", "ph": "ab.x ab.y ab.z ab.h ba.x ba.y ba.z l.a l.b l.c",
		} {
			check(t, who, grantsTold(audit.Reads(c, who)), want)
		}
	}
}

// P22.1 (Reads): one level alone, no tables, and as many tables and columns as there may be.
func TestReadsEdges(t *testing.T) {
	c := catalogOf("levels one; table t rows one (a int one, b text one) hide one when a = 1; principal p one;")
	check(t, "one", grantsTold(audit.Reads(c, "p")), "t.a t.b")
	for _, c := range two("principal down low; principal up high;") {
		check(t, "no tables", grantsTold(audit.Reads(c, "down"))+grantsTold(audit.Reads(c, "up")), "")
	}
	s := api.Schema{Levels: one("high", "low"), Edges: one(api.Pair{Low: "low", High: "high"}), Principals: one(api.Pair{Low: "up", High: "high"}, api.Pair{Low: "down", High: "low"})}
	var all, some []string
	for i := range api.MaxTables {
		table := api.Table{Name: fmt.Sprint("t", i), Rows: one("low", "low", "high")[i%3]}
		for j := range api.MaxCols {
			col := api.Col{Name: fmt.Sprint("c", j), Type: api.TyInt, Level: one("low", "high")[(i+j)%2]}
			table.Cols = append(table.Cols, col)
			all = append(all, table.Name+"."+col.Name)
			if table.Rows == "low" && col.Level == "low" {
				some = append(some, table.Name+"."+col.Name)
			}
		}
		s.Tables = append(s.Tables, table)
	}
	c = catalogFrom(s)
	check(t, "all", grantsTold(audit.Reads(c, "up")), namesTold(all))
	check(t, "some", grantsTold(audit.Reads(c, "down")), namesTold(some))
}

// P22.1 (Reads, Hears): nothing, if there is no such principal, or no catalog.
func TestNobody(t *testing.T) {
	without := catalogOf("levels low; table t rows low (a int low); channel c low;")
	for _, c := range append(ours(), without) {
		for _, who := range strangers() {
			if l, h := audit.Reads(c, who), audit.Hears(c, who); len(l)+len(h) > 0 {
				t.Errorf("%q: %v %v", who, l, h)
			}
		}
	}
	for _, c := range append(nones(), without) {
		for _, who := range append(strangers(), "ann", "zoe", "note") {
			if l, h := audit.Reads(c, who), audit.Hears(c, who); len(l)+len(h) > 0 {
				t.Errorf("%q: %v %v", who, l, h)
			}
		}
	}
}

// P22.1: a principal is found by its own name, though a table, a column, a channel and a level have it, too.
func TestSharedNames(t *testing.T) {
	const text = "order low < high; table low rows high (low int high); table t rows low (high int low); channel low high; channel high low; principal low high; principal high low; principal t low;"
	for _, levels := range []string{"low, high", "high, low"} {
		c := catalogOf("levels " + levels + ";" + text)
		check(t, "Reads", grantsTold(audit.Reads(c, "low"))+", "+grantsTold(audit.Reads(c, "high"))+", "+grantsTold(audit.Reads(c, "t")), "low.low t.high, t.high, t.high")
		check(t, "Hears", namesTold(audit.Hears(c, "low"))+", "+namesTold(audit.Hears(c, "high")), "low high, high")
		check(t, "Who", namesTold(audit.Who(c, levelOf(c, "low")))+", "+namesTold(audit.Who(c, levelOf(c, "high"))), "low high t, low")
		checkErr(t, "May", audit.May(c, "low", planOf(c, "select low as x from low")), api.OK)
		checkErr(t, "May", audit.May(c, "high", planOf(c, "select low as x from low")), api.ErrFlow)
	}
}
