package schema_test

import (
	"fmt"
	"slices"
	"strings"
	"testing"

	"cordon/api"
)

// lots is a schema with as much of all as there may be.
func lots() api.Schema {
	s := cornered(numbered(api.MaxTables, func(i int) api.Table { return wide(fmt.Sprint("t", i)) })...)
	s.Channels = numbered(api.MaxTables, func(i int) api.Pair { return pair(fmt.Sprint("c", i), "low") })
	s.Principals = numbered(api.MaxTables, func(i int) api.Pair { return pair(fmt.Sprint("p", i), "high") })
	s.Tables[0].Cols = numbered(api.MaxCols, func(i int) api.Col { return column(fmt.Sprint("n", i), api.TyInt, "a") })
	s.Tables[0].Key = numbered(api.MaxCols, func(i int) string { return fmt.Sprint("n", api.MaxCols-1-i) })
	s.Tables[0].When = one(towering(api.MaxNest, col("n7")))
	s.Limit = api.MaxRows
	return s
}

// towering is a predicate that is so deep.
func towering(deep int, foot api.Expr) api.Expr {
	x := bin(foot, "=", foot)
	for d := 2; d < deep; d++ {
		x = not(x)
	}
	return x
}

func TestEdges(t *testing.T) {
	accepted(t, "as much as there may be", lots())
	holds(t, lots(), "as much as there may be")
	for _, c := range []struct {
		what   string
		change func(s *api.Schema)
		at     int
		want   api.Errno
	}{
		{"a table more", func(s *api.Schema) { s.Tables = append(s.Tables, wide("more")) }, 0, api.ErrMany},
		{"a channel more", func(s *api.Schema) { s.Channels = append(s.Channels, pair("more", "low")) }, 0, api.ErrMany},
		{"a principal more", func(s *api.Schema) { s.Principals = append(s.Principals, pair("more", "low")) }, 0, api.ErrMany},
		{"limit -1", func(s *api.Schema) { s.Limit = -1 }, 0, api.ErrMany},
		{"limit one more", func(s *api.Schema) { s.Limit = api.MaxRows + 1 }, 0, api.ErrMany},
		{"a column more", func(s *api.Schema) { s.Tables[0].Cols = append(s.Tables[0].Cols, column("more", api.TyInt, "a")) }, 1, api.ErrMany},
		{"no columns", func(s *api.Schema) { s.Tables[19].Cols = nil }, 20, api.ErrMany},
		{"one deeper", func(s *api.Schema) { s.Tables[0].When = one(towering(api.MaxNest+1, col("n7"))) }, 1, api.ErrShape},
	} {
		s := with(lots(), c.change)
		refused(t, c.what, s, c.at, c.want)
		holds(t, s, c.what)
	}
	for limit, want := range map[int]int{0: api.MaxRows, 1: 1, api.MaxRows: api.MaxRows, api.MaxRows - 1: api.MaxRows - 1} {
		if got := made(t, with(lots(), func(s *api.Schema) { s.Limit = limit })).Limit(); got != want {
			t.Errorf("limit %d is %d, want %d", limit, got, want)
		}
	}
	for _, limit := range []int{-1 << 63, 1<<63 - 1} {
		refused(t, "limit", with(lots(), func(s *api.Schema) { s.Limit = limit }), 0, api.ErrMany)
	}
}

// fault makes one thing wrong; rank is its place in the order of P8.1, slot what it takes the place of, so that two with one slot can't be made at once.
type fault struct {
	what string
	slot string
	rank int
	at   int
	err  api.Errno
	do   func(s *api.Schema)
}

// broken is one thing wrong with a table.
type broken struct {
	what, slot string
	rank       int
	err        api.Errno
	do         func(x *api.Table)
}

func more(c api.Col) func(x *api.Table) { return func(x *api.Table) { x.Cols = append(x.Cols, c) } }

func keyed(name string) func(x *api.Table) {
	return func(x *api.Table) { x.Key = append(x.Key, name) }
}

func hide(level string) func(x *api.Table) { return func(x *api.Table) { x.Hide = level } }

func when(l ...api.Expr) func(x *api.Table) { return func(x *api.Table) { x.When = l } }

func brokenTables() []broken {
	return []broken{
		{"too many columns", "", 1, api.ErrMany, func(x *api.Table) {
			x.Cols = append(x.Cols, numbered(api.MaxCols, func(i int) api.Col { return column(fmt.Sprint("c", i), api.TyInt, "low") })...)
		}},
		{"empty name", "name", 2, api.ErrName, func(x *api.Table) { x.Name = "" }},
		{"empty name of a column", "", 2, api.ErrName, more(column("", api.TyInt, "low"))},
		{"name of a column ahead", "", 2, api.ErrName, more(column("id", api.TyInt, "low"))},
		{"column of null", "", 3, api.ErrType, more(column("c", api.TyNull, "low"))},
		{"column of type 4", "", 3, api.ErrType, more(column("d", 4, "low"))},
		{"column of type -1", "", 3, api.ErrType, more(column("e", -1, "low"))},
		{"first column of type 5", "", 3, api.ErrType, func(x *api.Table) { x.Cols[0].Type = 5 }},
		{"rows at no level", "rows", 4, api.ErrName, func(x *api.Table) { x.Rows = "nowhere" }},
		{"rows at an empty level", "rows", 4, api.ErrName, func(x *api.Table) { x.Rows = "" }},
		{"column at no level", "", 4, api.ErrName, more(column("g", api.TyInt, "nowhere"))},
		{"column at an empty level", "", 4, api.ErrName, more(column("h", api.TyInt, ""))},
		{"key of no column", "", 5, api.ErrName, keyed("nothing")},
		{"key of the empty name", "", 5, api.ErrName, keyed("")},
		{"key of the table's name", "", 5, api.ErrName, func(x *api.Table) { x.Key = append(x.Key, x.Name) }},
		{"key of a column twice", "", 5, api.ErrName, keyed("n")},
		{"key of a column twice, further on", "", 5, api.ErrName, func(x *api.Table) { x.Key = append(x.Key, "s", "f", "s") }},
		{"key above rows", "", 6, api.ErrFlow, keyed("above")},
		{"key beside rows", "", 6, api.ErrFlow, keyed("beside")},
		{"hide no level", "hide", 7, api.ErrName, hide("nowhere")},
		{"hide empty", "hide", 7, api.ErrName, hide("")},
		{"hide below rows", "hide", 8, api.ErrFlow, hide("low")},
		{"hide beside rows", "hide", 8, api.ErrFlow, hide("b")},
		{"hide without when", "when", 9, api.ErrShape, when()},
		{"two in when", "when", 9, api.ErrShape, when(yes(), yes())},
		{"when of no kind", "when", 9, api.ErrShape, when(api.Expr{})},
		{"when of a variable", "when", 9, api.ErrShape, when(api.Expr{Kind: api.ExVar, S: "n"})},
		{"when of no column", "when", 9, api.ErrShape, when(bin(col("n"), "=", col("nothing")))},
		{"when of another table's column", "when", 9, api.ErrShape, when(is(0, colOf("other", "n")))},
		{"when too deep", "when", 9, api.ErrShape, when(towering(api.MaxNest+1, num(1)))},
		{"when a number", "when", 10, api.ErrType, when(num(1))},
		{"when a text", "when", 10, api.ErrType, when(text("true"))},
		{"when without a type", "when", 10, api.ErrType, when(bin(col("n"), "=", col("s")))},
		{"when of a type, with a part without one", "when", 10, api.ErrType, when(is(0, not(num(1))))},
		{"when above rows", "when", 11, api.ErrFlow, when(col("above"))},
		{"when beside rows, deeper down", "when", 11, api.ErrFlow, when(choice(yes(), null(), bin(no(), "or", is(1, col("beside")))))},
		{"no columns", "columns", 1, api.ErrMany, func(x *api.Table) { x.Cols = nil }}, // behind the others, as they would have no columns to be about
	}
}

// tableFaults are all that can be wrong with the table at a place.
func tableFaults(place int) []fault {
	var out []fault
	for _, b := range brokenTables() {
		slot := b.slot
		if slot != "" {
			slot = fmt.Sprint(slot, place)
		}
		out = append(out, fault{fmt.Sprint("table ", place+1, ": ", b.what), slot, ofTables*(place+1) + b.rank, place + 1, b.err, func(s *api.Schema) { b.do(&s.Tables[place]) }})
	}
	for ahead := range place {
		out = append(out, fault{fmt.Sprint("table ", place+1, ": name of table ", ahead+1), fmt.Sprint("name", place), ofTables*(place+1) + 2, place + 1, api.ErrName, func(s *api.Schema) {
			s.Tables[place].Name = sample().Tables[ahead].Name
		}})
	}
	return out
}

// listFaults are all that can be wrong with a list of names.
func listFaults(what string, order int, list func(s *api.Schema) []api.Pair) []fault {
	var out []fault
	s := sample()
	for i := range list(&s) {
		add := func(why, slot string, do func(l []api.Pair)) {
			out = append(out, fault{fmt.Sprint(what, " ", i+1, ": ", why), fmt.Sprint(what, slot, i), order + i, i + 1, api.ErrName, func(s *api.Schema) { do(list(s)) }})
		}
		add("empty name", "name", func(l []api.Pair) { l[i].Low = "" })
		add("no level", "level", func(l []api.Pair) { l[i].High = "nowhere" })
		add("empty level", "level", func(l []api.Pair) { l[i].High = "" })
		for ahead := range i {
			name := list(&s)[ahead].Low
			add(fmt.Sprint("name of ", ahead+1), "name", func(l []api.Pair) { l[i].Low = name })
		}
	}
	return out
}

func faults() []fault {
	out := []fault{
		{"too many levels", "", 0, 0, api.ErrMany, func(s *api.Schema) {
			s.Levels = append(s.Levels, numbered(api.MaxLevels, func(i int) string { return fmt.Sprint("l", i) })...)
		}},
		{"too many edges", "", 0, 0, api.ErrMany, func(s *api.Schema) {
			s.Edges = append(s.Edges, numbered(api.MaxEdges, func(int) api.Pair { return pair("low", "a") })...)
		}},
		{"a level twice", "", 1, 0, api.ErrName, func(s *api.Schema) { s.Levels = append(s.Levels, "a") }},
		{"an edge to nowhere", "", 1, 0, api.ErrName, func(s *api.Schema) { s.Edges = append(s.Edges, pair("a", "nowhere else")) }},
		{"edges that go round", "", 2, 0, api.ErrLevel, func(s *api.Schema) { s.Edges = append(s.Edges, pair("a", "low")) }},
		{"too many channels", "", 3, 0, api.ErrMany, func(s *api.Schema) {
			s.Channels = append(s.Channels, numbered(api.MaxTables, func(i int) api.Pair { return pair(fmt.Sprint("l", i), "low") })...)
		}},
		{"too many principals", "", 3, 0, api.ErrMany, func(s *api.Schema) {
			s.Principals = append(s.Principals, numbered(api.MaxTables, func(i int) api.Pair { return pair(fmt.Sprint("l", i), "low") })...)
		}},
		{"limit -1", "limit", 3, 0, api.ErrMany, func(s *api.Schema) { s.Limit = -1 }},
		{"limit too great", "limit", 3, 0, api.ErrMany, func(s *api.Schema) { s.Limit = api.MaxRows + 1 }},
		{"too many tables", "", 3, 0, api.ErrMany, func(s *api.Schema) {
			s.Tables = append(s.Tables, numbered(api.MaxTables, func(i int) api.Table { return wide(fmt.Sprint("more", i)) })...)
		}},
	}
	for place := range 3 {
		out = append(out, tableFaults(place)...)
	}
	out = append(out, listFaults("channel", ofChannels, func(s *api.Schema) []api.Pair { return s.Channels })...)
	return append(out, listFaults("principal", ofPrincipals, func(s *api.Schema) []api.Pair { return s.Principals })...)
}

// threefold is a schema in which each of three tables can have all faults.
func threefold() api.Schema {
	s := sample()
	for i, x := range s.Tables {
		s.Tables[i] = wide(x.Name)
	}
	return s
}

// P8.1: each error, alone, with its number.
func TestEachFault(t *testing.T) {
	accepted(t, "no fault", threefold())
	for _, f := range faults() {
		s := with(threefold(), f.do)
		refused(t, f.what, s, f.at, f.err)
		holds(t, s, f.what)
	}
}

// P8.1: of any two at once the one that is named first is told.
func TestTwoFaults(t *testing.T) {
	all := faults()
	for i, f := range all {
		for _, g := range all[i+1:] {
			if f.slot != "" && f.slot == g.slot || undoes(f, g) {
				continue
			}
			s := with(with(threefold(), f.do), g.do)
			first := f
			if g.rank < f.rank {
				first = g
			}
			refused(t, f.what+", "+g.what, s, first.at, first.err)
			holds(t, s, f.what+", "+g.what)
		}
	}
}

// undoes: a table with neither hide nor when hides nothing, so that both are no fault together.
func undoes(f, g fault) bool {
	return f.at == g.at && strings.HasSuffix(f.what, "hide empty") && strings.HasSuffix(g.what, "hide without when")
}

// Three tables with something wrong: the first of them is told.
func TestThreeTables(t *testing.T) {
	for i, f := range brokenTables() {
		for j, g := range brokenTables() {
			h := brokenTables()[(i+3*j)%len(brokenTables())]
			s := threefold()
			f.do(&s.Tables[0])
			g.do(&s.Tables[1])
			h.do(&s.Tables[2])
			what := strings.Join([]string{f.what, g.what, h.what}, ", ")
			refused(t, what, s, 1, f.err)
			s.Tables[0] = wide("t")
			refused(t, "fine, "+what, s, 2, g.err)
			s.Tables[1] = wide("u")
			refused(t, "fine, fine, "+what, s, 3, h.err)
		}
	}
}

// When and Hide stand together, or neither does.
func TestHidden(t *testing.T) {
	for _, hide := range []string{"", "high", "a", "low", "nowhere"} {
		for n := range 4 {
			s := cornered(with(wide("t"), func(x *api.Table) { x.Hide, x.When = hide, numbered(n, func(int) api.Expr { return yes() }) }))
			switch {
			case hide == "" && n == 0:
				if r := made(t, s).Tables()[0]; r.Hide != -1 || len(r.When) != 0 {
					t.Errorf("%+v", r)
				}
			case hide == "" || hide == "nowhere":
				refused(t, hide, s, 1, api.ErrName)
			case hide == "low":
				refused(t, hide, s, 1, api.ErrFlow)
			case n != 1:
				refused(t, hide, s, 1, api.ErrShape)
			default:
				if r := made(t, s).Tables()[0]; r.Hide != slices.Index(s.Levels, hide) || !same(r.When, one(yes())) {
					t.Errorf("%+v", r)
				}
			}
		}
	}
}

// Which levels a key, a predicate and hidden rows may have, for all levels.
func TestFlows(t *testing.T) {
	levels := cornered().Levels
	below := func(a, b string) bool { return a == b || a == "low" || b == "high" }
	for _, rows := range levels {
		for _, level := range levels {
			tab := api.Table{Name: "t", Rows: rows, Cols: one(column("x", api.TyBool, level), column("y", api.TyInt, "low"))}
			accepted(t, "a column at any level", cornered(tab))
			for what, s := range map[string]api.Schema{
				"key":             cornered(with(tab, func(x *api.Table) { x.Key = one("x") })),
				"key, behind":     cornered(with(tab, func(x *api.Table) { x.Key = one("y", "x") })),
				"when":            cornered(with(tab, func(x *api.Table) { x.Hide, x.When = "high", one(col("x")) })),
				"when, by table":  cornered(with(tab, func(x *api.Table) { x.Hide, x.When = "high", one(not(colOf("t", "x"))) })),
				"when, with null": cornered(with(tab, func(x *api.Table) { x.Hide, x.When = "high", one(bin(no(), "and", is(0, col("x")))) })),
			} {
				if below(level, rows) {
					accepted(t, what+" "+level+" of "+rows, s)
				} else {
					refused(t, what+" "+level+" of "+rows, s, 1, api.ErrFlow)
				}
			}
			s := cornered(with(tab, func(x *api.Table) { x.Hide, x.When = level, one(bin(col("y"), ">", num(1))) }))
			if below(rows, level) {
				accepted(t, "hide "+level+" of "+rows, s)
			} else {
				refused(t, "hide "+level+" of "+rows, s, 1, api.ErrFlow)
			}
		}
	}
}
