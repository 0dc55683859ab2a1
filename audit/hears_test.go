package audit_test

import (
	"fmt"
	"testing"

	"cordon/api"
	"cordon/audit"
)

// P22.1 (Hears): channels below, at, above and beside the principal's level, in the catalog's order.
func TestHears(t *testing.T) {
	for level, want := range map[string]string{
		"low": "note cl", "a": "note back again cl", "b": "out note cl", "high": "out log note back again cl",
	} {
		for _, c := range ours() {
			for _, who := range ourPeople()[level] {
				check(t, who, namesTold(audit.Hears(c, who)), want)
			}
		}
	}
}

// P22.1 (Hears): one channel alone, of each level.
func TestHearsOne(t *testing.T) {
	seen := map[string]string{"low": "low a b high", "a": "a high", "b": "b high", "high": "high"}
	for _, levels := range []string{"low, a, b, high", "b, high, low, a", "high, b, a, low"} {
		for of, by := range seen {
			c := catalogOf("levels " + levels + "; order low < a < high; order low < b < high; channel c " + of + "; principal a a; principal low low; principal high high; principal b b;")
			got := ""
			for _, who := range []string{"low", "a", "b", "high"} {
				if l := audit.Hears(c, who); len(l) > 0 {
					check(t, who, namesTold(l), "c")
					got += " " + who
				}
			}
			check(t, of, got, " "+by)
		}
	}
}

// P22.1 (Hears): none at all, all of them, and as many as there may be. Tables have nothing to do with it.
func TestHearsEdges(t *testing.T) {
	for _, c := range two("table t rows low (a int low); principal down low; principal up high;") {
		check(t, "no channels", namesTold(audit.Hears(c, "down"))+namesTold(audit.Hears(c, "up")), "")
	}
	for _, c := range two("channel b high; channel a high; principal down low; principal up high;") {
		check(t, "none", namesTold(audit.Hears(c, "down")), "")
		check(t, "all", namesTold(audit.Hears(c, "up")), "b a")
	}
	check(t, "one level", namesTold(audit.Hears(catalogOf("levels one; channel z one; channel y one; principal p one;"), "p")), "z y")
	s := api.Schema{Levels: one("high", "low"), Edges: one(api.Pair{Low: "low", High: "high"}), Principals: one(api.Pair{Low: "up", High: "high"}, api.Pair{Low: "down", High: "low"})}
	var all, some []string
	for i := range api.MaxTables {
		s.Channels = append(s.Channels, api.Pair{Low: fmt.Sprint("c", i*7%api.MaxTables), High: one("low", "high", "high")[i%3]})
		all = append(all, s.Channels[i].Low)
		if i%3 == 0 {
			some = append(some, s.Channels[i].Low)
		}
	}
	check(t, "all", namesTold(audit.Hears(catalogFrom(s), "up")), namesTold(all))
	check(t, "some", namesTold(audit.Hears(catalogFrom(s), "down")), namesTold(some))
}
