package schema_test

import (
	"reflect"
	"slices"
	"testing"

	"cordon/api"
	"cordon/lattice"
	"cordon/schema"
)

const example = "levels low, high; order low < high; table t rows low (a int low, b int high) key (a) hide high when "

func TestExamples(t *testing.T) {
	c := made(t, read(t, example+"a = 1;"))
	want := []api.Relation{{Name: "t", Rows: 0, Key: []int{0}, Hide: 1, When: one(bin(col("a"), "=", num(1))),
		Cols: []api.Field{{Name: "a", Type: api.TyInt, Level: 0}, {Name: "b", Type: api.TyInt, Level: 1}}}}
	if got := c.Tables(); !same(got, want) {
		t.Errorf("%+v, want %+v", got, want)
	}
	refused(t, "b = 1", read(t, example+"b = 1;"), 1, api.ErrFlow)
}

// P8.2, of a schema with something of all.
func TestSample(t *testing.T) {
	c := made(t, sample())
	want := told{
		Levels: one("low", "a", "b", "high"),
		Tables: []api.Relation{
			{Name: "t", Rows: 1, Key: []int{1, 0}, Hide: 3, When: one(bin(col("n"), "=", num(1))), Cols: []api.Field{
				{Name: "id", Type: api.TyInt}, {Name: "n", Type: api.TyInt, Level: 1}, {Name: "s", Type: api.TyText, Level: 1}, {Name: "f", Type: api.TyBool}, {Name: "beside", Type: api.TyBool, Level: 2}, {Name: "above", Type: api.TyBool, Level: 3}}},
			{Name: "u", Hide: -1, Cols: []api.Field{{Name: "id", Type: api.TyText, Null: true, Level: 3}}},
			{Name: "v", Rows: 3, Key: []int{1}, Hide: 3, When: sample().Tables[2].When, Cols: []api.Field{{Name: "x", Type: api.TyBool, Level: 3}, {Name: "y", Type: api.TyInt, Level: 1}}},
		},
		Channels:   []api.Named{{Name: "out", Level: 0}, {Name: "err", Level: 3}, {Name: "log", Level: 1}},
		Principals: []api.Named{{Name: "ann", Level: 2}, {Name: "out", Level: 3}},
		Limit:      7,
	}
	if got := tells(c); !same(got, want) {
		t.Errorf("%+v\nwant %+v", got, want)
	}
	for _, l := range []struct {
		name string
		ask  func(name string) (int, bool)
		want map[string]int
	}{
		{"Table", c.Table, map[string]int{"t": 0, "u": 1, "v": 2}},
		{"Channel", c.Channel, map[string]int{"out": 0, "err": 3, "log": 1}},
		{"Principal", c.Principal, map[string]int{"ann": 2, "out": 3}},
	} {
		for _, name := range []string{"t", "u", "v", "w", "T", "", "out", "err", "log", "ann", "id", "low", "a", "\x00"} {
			want, there := l.want[name]
			if got, ok := l.ask(name); got != want || ok != there {
				t.Errorf("%s(%q): %d %v, want %d %v", l.name, name, got, ok, want, there)
			}
		}
	}
	if l := c.Lattice(); l.Join(1, 2) != 3 || l.Meet(1, 2) != 0 || l.Leq(1, 2) || !l.Leq(0, 2) {
		t.Error("the lattice is another one")
	}
}

// A schema of levels alone has nothing else.
func TestLevelsAlone(t *testing.T) {
	c := made(t, read(t, "levels only;"))
	if got := tells(c); !same(got, told{Levels: one("only"), Limit: api.MaxRows}) {
		t.Errorf("%+v", got)
	}
	looks(t, c, api.Schema{})
	refused(t, "the empty schema", api.Schema{}, 0, api.ErrLevel)
}

// What P8.1 says nothing against: names that are no names of the language, one name for unlike things, a key of all columns, hidden rows without a key.
func TestNamesOfAllKinds(t *testing.T) {
	long := string(make([]byte, 5000))
	for _, name := range []string{"select", "1", " ", "é", "\x00", "\xff", long, "low"} {
		s := cornered(api.Table{Name: name, Rows: "low", Cols: one(column(name, api.TyBool, "low"), column("x", api.TyInt, "low")), Key: one("x", name), Hide: "low", When: one(colOf(name, name))})
		s.Channels, s.Principals = one(pair(name, "a"), pair("x", "b")), one(pair(name, "high"), pair("x", "a"))
		holds(t, s, name)
		accepted(t, name, s)
	}
	s := cornered(wide("t"), with(wide("u"), func(x *api.Table) { x.Key = nil }))
	s.Channels, s.Principals = one(pair("t", "a"), pair("n", "a")), one(pair("n", "a"), pair("t", "low"))
	accepted(t, "one name for several things", s)
	holds(t, s, "one name for several things")
}

// Of nil, and of what no call made, there is nothing.
func TestNil(t *testing.T) {
	for _, c := range []*schema.Catalog{nil, {}} {
		if c.Lattice() != nil || len(c.Tables()) != 0 || len(c.Channels()) != 0 || len(c.Principals()) != 0 || c.Limit() != 0 {
			t.Errorf("%v, %v, %v, %v, %d", c.Lattice(), c.Tables(), c.Channels(), c.Principals(), c.Limit())
		}
		for _, name := range []string{"", "t", "low"} {
			for _, ask := range []func(name string) (int, bool){c.Table, c.Channel, c.Principal} {
				if at, ok := ask(name); at != 0 || ok {
					t.Errorf("%q: %d %v", name, at, ok)
				}
			}
		}
	}
}

// queried is a schema whose predicate holds a query, of which nobody asks, with lists at all places.
func queried() api.Schema {
	x := func() api.Expr { return bin(col("n"), "=", text("x")) }
	q := func() api.Query { return api.Query{Kind: api.QuSelect, Items: one(api.Item{E: x(), Name: "x"})} }
	from := func() api.From { return api.From{Kind: api.FrQuery, Q: one(q()), On: one(x())} }
	whole := api.Query{
		Kind: api.QuUnion, Items: one(api.Item{E: x()}), From: one(with(from(), func(f *api.From) { f.Kids = one(from(), from()) })),
		Where: one(x()), Group: one(x(), x()), Having: one(x()), Order: one(api.Key{E: x(), Desc: true}), Limit: 3, Kids: one(q(), q()),
	}
	s := sample()
	s.Tables[0].When = one(with(x(), func(e *api.Expr) { e.Kids[1] = api.Expr{Kind: api.ExInt, N: 2, Q: one(whole)} }))
	return s
}

// Rule 3: a catalog keeps nothing of what is handed in, and hands out nothing that it keeps.
func TestOwnMemory(t *testing.T) {
	for _, s := range []api.Schema{sample(), queried(), read(t, example+"a = 1;")} {
		kept := copied(s)
		c := made(t, s)
		want := lookedUp(kept)
		if !same(s, kept) {
			t.Fatal("what is handed in is changed")
		}
		spoil(reflect.ValueOf(&s).Elem())
		if same(s, kept) {
			t.Fatal("nothing is spoilt")
		}
		if got := tells(c); !same(got, want) {
			t.Fatalf("what is handed in is kept: %+v", got)
		}
		first := tells(c)
		second := copied(first)
		out := tells(c)
		spoil(reflect.ValueOf(&out).Elem())
		out.Tables = append(out.Tables, api.Relation{})
		if got := tells(c); !same(got, want) || !same(first, second) {
			t.Errorf("what is handed out is kept: %+v\nwant %+v", got, want)
		}
		looks(t, c, kept)
	}
}

// Two tables whose predicates share one list, and a predicate of which two parts do, are taken apart.
func TestSharedParts(t *testing.T) {
	kids := one(col("n"), num(1))
	x := api.Expr{Kind: api.ExBin, S: "=", Kids: kids}
	whole := one(bin(x, "or", x))
	c := made(t, cornered(with(wide("t"), func(x *api.Table) { x.When = whole }), with(wide("u"), func(x *api.Table) { x.When = whole })))
	got := c.Tables()
	got[0].When[0].Kids[0].Kids[1].N = 9
	got[0].Key[0], got[0].Cols[0].Name = 5, "other"
	want := bin(bin(col("n"), "=", num(1)), "or", bin(col("n"), "=", num(1)))
	if !same(got[1].When[0], want) || !same(got[0].When[0].Kids[1], want.Kids[1]) || got[1].Key[0] != 1 || got[1].Cols[0].Name != "id" {
		t.Errorf("%+v", got)
	}
}

// P2, and rule 6: a call that is refused, and one that is not, changes nothing for the others.
func TestCallsStandAlone(t *testing.T) {
	c := made(t, sample())
	want := tells(c)
	for range 3 {
		accepted(t, "sample", sample())
		accepted(t, "other", cornered(wide("other")))
		refused(t, "empty", api.Schema{}, 0, api.ErrLevel)
		refused(t, "second table", with(sample(), func(s *api.Schema) { s.Tables[1].Name = "t" }), 2, api.ErrName)
		refused(t, "third channel", with(sample(), func(s *api.Schema) { s.Channels[2].High = "" }), 3, api.ErrName)
		for _, name := range []string{"nobody", "", "other"} {
			c.Table(name)
			c.Channel(name)
			c.Principal(name)
		}
		if got := tells(c); !same(got, want) {
			t.Fatalf("%+v, want %+v", got, want)
		}
	}
}

// P8.3: without a channel, or a principal, all others are looked up as before.
func TestWithoutOne(t *testing.T) {
	for _, s := range []api.Schema{sample(), queried(), lots()} {
		whole := tells(made(t, s))
		for i := range s.Channels {
			less := with(s, func(s *api.Schema) { s.Channels = slices.Delete(slices.Clone(s.Channels), i, i+1) })
			want := with(whole, func(x *told) { x.Channels = slices.Delete(slices.Clone(x.Channels), i, i+1) })
			without(t, less, want)
			if level, ok := made(t, less).Channel(s.Channels[i].Low); level != 0 || ok {
				t.Errorf("%s is still there", s.Channels[i].Low)
			}
		}
		for i := range s.Principals {
			less := with(s, func(s *api.Schema) { s.Principals = slices.Delete(slices.Clone(s.Principals), i, i+1) })
			want := with(whole, func(x *told) { x.Principals = slices.Delete(slices.Clone(x.Principals), i, i+1) })
			without(t, less, want)
			if level, ok := made(t, less).Principal(s.Principals[i].Low); level != 0 || ok {
				t.Errorf("%s is still there", s.Principals[i].Low)
			}
		}
	}
}

func without(t *testing.T, s api.Schema, want told) {
	t.Helper()
	c := made(t, s)
	if got := tells(c); !same(got, want) {
		t.Errorf("%+v\nwant %+v", got, want)
	}
	looks(t, c, s)
}

func TestSignatures(t *testing.T) {
	var _ func(s api.Schema) (*schema.Catalog, int, api.Errno) = schema.New
	var c *schema.Catalog
	var _ func() *lattice.Lattice = c.Lattice
	var _ func() []api.Relation = c.Tables
	var _, _, _ func(name string) (int, bool) = c.Table, c.Channel, c.Principal
	var _, _ func() []api.Named = c.Channels, c.Principals
	var _ func() int = c.Limit
}
