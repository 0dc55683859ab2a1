package audit_test

import (
	"fmt"
	"testing"

	"cordon/api"
	"cordon/audit"
)

// P22.1 (Who): of each level the principals at it and above it, in the catalog's order.
func TestWho(t *testing.T) {
	for level, want := range map[string]string{
		"low": "zoe bob ann cyd dan note eve abe", "a": "zoe bob dan eve", "b": "zoe cyd note eve", "high": "zoe eve",
	} {
		for _, c := range ours() {
			check(t, level, namesTold(audit.Who(c, levelOf(c, level))), want)
		}
	}
}

// P22.1 (Who): none sees what is no level.
func TestWhoOfNoLevel(t *testing.T) {
	one := catalogOf("levels one; principal p one;")
	for _, c := range append(ours(), one) {
		for _, level := range noLevels(c) {
			check(t, level, namesTold(audit.Who(c, level)), "")
		}
	}
	check(t, "one level", namesTold(audit.Who(one, 0)), "p")
}

// P22.1 (Who): no principals, one at each level, several at the same one, and as many as there may be.
func TestWhoEdges(t *testing.T) {
	for _, x := range []struct{ people, low, high string }{
		{"", "", ""}, {"principal p low;", "p", ""}, {"principal p high;", "p", "p"}, {"principal q low; principal p low;", "q p", ""},
		{"principal q high; principal p high;", "q p", "q p"}, {"principal r low; principal q high; principal p low;", "r q p", "q"},
	} {
		for _, c := range two("table t rows low (a int low); channel c low; channel d high;" + x.people) {
			check(t, x.people, namesTold(audit.Who(c, levelOf(c, "low"))), x.low)
			check(t, x.people, namesTold(audit.Who(c, levelOf(c, "high"))), x.high)
		}
	}
	s := api.Schema{Levels: one("high", "low"), Edges: one(api.Pair{Low: "low", High: "high"})}
	var all, some []string
	for i := range api.MaxTables {
		s.Principals = append(s.Principals, api.Pair{Low: fmt.Sprint("p", i*7%api.MaxTables), High: one("low", "high", "high")[i%3]})
		all = append(all, s.Principals[i].Low)
		if i%3 > 0 {
			some = append(some, s.Principals[i].Low)
		}
	}
	check(t, "low", namesTold(audit.Who(catalogFrom(s), 1)), namesTold(all))
	check(t, "high", namesTold(audit.Who(catalogFrom(s), 0)), namesTold(some))
}

// P22.1 (Who): a chain of as many levels as there may be, the greatest one first.
func TestWhoOfChain(t *testing.T) {
	s := api.Schema{Levels: numbered(api.MaxLevels, func(i int) string { return fmt.Sprint("l", i) })}
	for i, name := range s.Levels {
		s.Principals = append(s.Principals, api.Pair{Low: fmt.Sprint("p", i), High: name})
		if i > 0 {
			s.Edges = append(s.Edges, api.Pair{Low: name, High: s.Levels[i-1]})
		}
	}
	c := catalogFrom(s)
	for level := range s.Levels {
		check(t, level, namesTold(audit.Who(c, level)), namesTold(numbered(level+1, func(i int) string { return fmt.Sprint("p", i) })))
	}
}

// P22.1 (Who): nobody, without a catalog.
func TestWhoOfNil(t *testing.T) {
	for _, c := range nones() {
		for level := -2; level < 4; level++ {
			check(t, level, namesTold(audit.Who(c, level)), "")
		}
	}
}

// P22.1: a principal is among those who see a channel's level just if it hears the channel.
func TestWhoHears(t *testing.T) {
	for _, c := range ours() {
		for _, channel := range c.Channels() {
			var by []string
			for _, p := range c.Principals() {
				for _, name := range audit.Hears(c, p.Name) {
					if name == channel.Name {
						by = append(by, p.Name)
					}
				}
			}
			check(t, channel.Name, namesTold(audit.Who(c, channel.Level)), namesTold(by))
		}
	}
}
