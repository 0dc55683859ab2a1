package syntax_test

import (
	"testing"

	"cordon/api"
)

// P6.1, of schemas.

func cols(l ...api.Col) []api.Col { return l }

func TestSchema(t *testing.T) {
	s := `levels low, high;
order low < high;
table t rows low (a int low, b text null high) key (a) hide high when a = 1;
channel out low; channel log high;
principal bob low;
limit 20;
`
	reads(t, schemas(), s, api.Schema{
		Levels: []string{"low", "high"},
		Edges:  []api.Pair{pair("low", "high")},
		Tables: []api.Table{{Name: "t", Rows: "low", Key: []string{"a"}, Hide: "high", When: one(bin(col("a"), "=", num(1))),
			Cols: cols(api.Col{Name: "a", Type: api.TyInt, Level: "low"}, api.Col{Name: "b", Type: api.TyText, Null: true, Level: "high"})}},
		Channels:   []api.Pair{pair("out", "low"), pair("log", "high")},
		Principals: []api.Pair{pair("bob", "low")},
		Limit:      20,
	})
}

func TestSchemaParts(t *testing.T) {
	a := api.Col{Name: "a", Type: api.TyInt, Level: "l"}
	b := api.Col{Name: "b", Type: api.TyBool, Null: true, Level: "m"}
	c := api.Col{Name: "c", Type: api.TyText, Level: "l"}
	tab := func(change func(t *api.Table)) api.Schema {
		out := api.Table{Name: "t", Rows: "l", Cols: cols(a)}
		change(&out)
		return api.Schema{Tables: []api.Table{out}}
	}
	for s, want := range map[string]api.Schema{
		"":                          {},
		"levels l;":                 {Levels: []string{"l"}},
		"levels l, m, l;":           {Levels: []string{"l", "m", "l"}},
		"order l < m;":              {Edges: []api.Pair{pair("l", "m")}},
		"order l < m < n < l;":      {Edges: []api.Pair{pair("l", "m"), pair("m", "n"), pair("n", "l")}},
		"table t rows l (a int l);": tab(func(t *api.Table) {}),
		"table t rows l (a int l, b bool null m, c text l);": tab(func(t *api.Table) { t.Cols = cols(a, b, c) }),
		"table t rows l (a int l) key (a);":                  tab(func(t *api.Table) { t.Key = []string{"a"} }),
		"table t rows l (a int l) key (a, b, a);":            tab(func(t *api.Table) { t.Key = []string{"a", "b", "a"} }),
		"table t rows l (a int l) hide m when a or b;":       tab(func(t *api.Table) { t.Hide, t.When = "m", one(bin(col("a"), "or", col("b"))) }),
		"table t rows l (a int l) key (a) hide m when true;": tab(func(t *api.Table) { t.Key, t.Hide, t.When = []string{"a"}, "m", one(yes()) }),
		"channel c l;":              {Channels: []api.Pair{pair("c", "l")}},
		"principal p l;":            {Principals: []api.Pair{pair("p", "l")}},
		"limit 0;":                  {},
		"limit 7;":                  {Limit: 7},
		"limit 7; limit 5;":         {Limit: 5},
		"limit 7; limit 0;":         {},
		"limit 999999999999999999;": {Limit: 999999999999999999},
	} {
		reads(t, schemas(), s, want)
	}
}

// Parts may stand in any order, and several times: each list has them as they come.
func TestSchemaOrder(t *testing.T) {
	s := "limit 3; principal p l; channel c l; table t rows l (a int l); order l < m; levels l; " +
		"levels m, n; order m < n < k; table u rows m (b bool m); channel d m; principal q m; limit 4; levels k;"
	reads(t, schemas(), s, api.Schema{
		Levels: []string{"l", "m", "n", "k"},
		Edges:  []api.Pair{pair("l", "m"), pair("m", "n"), pair("n", "k")},
		Tables: []api.Table{
			{Name: "t", Rows: "l", Cols: cols(api.Col{Name: "a", Type: api.TyInt, Level: "l"})},
			{Name: "u", Rows: "m", Cols: cols(api.Col{Name: "b", Type: api.TyBool, Level: "m"})},
		},
		Channels:   []api.Pair{pair("c", "l"), pair("d", "m")},
		Principals: []api.Pair{pair("p", "l"), pair("q", "m")},
		Limit:      4,
	})
}

func TestWrongSchemas(t *testing.T) {
	for _, s := range []string{
		"§a;", "§;", "§1", "§level l;", "§key (a);", "§hide m when a;", "§var x int;", "§skip;", "§select a as x", "§(", "§'levels'",
		"levels§", "levels§;", "levels §order;", "levels §1;", "levels l§", "levels l §m;", "levels l,§;", "levels §, l;", "levels l §< m;", "levels l §order l < m;", "levels §(l);",
		"order§", "order§;", "order §< m;", "order l§", "order l§;", "order l§, m;", "order l §> m;", "order l §<= m;", "order l §<> m;", "order l <§", "order l <§;", "order l < m§", "order l < m§, n;", "order l < m <§;", "order l < m §n;", "order §by l < m;",
		"table§", "table§;", "table §rows l (a int l);", "table t§;", "table t §(a int l);", "table t §l (a int l);", "table t rows§", "table t rows §(a int l);", "table t rows l§", "table t rows l§;", "table t rows l §a int l;",
		"table t rows l (§", "table t rows l (§);", "table t rows l (a§);", "table t rows l (a §l);", "table t rows l (a int§);", "table t rows l (a §null l);", "table t rows l (a int null§);", "table t rows l (a int null §null l);", "table t rows l (a int §not null l);", "table t rows l (a int l§;", "table t rows l (a int l §null);", "table t rows l (a int l,§);", "table t rows l (a int l §b int l);", "table t rows l (§int int l);", "table t rows l (a int l)§", "table t rows l (a int l) §(b int l);", "table t rows l (a §Int l);",
		"table t rows l (a int l) key§;", "table t rows l (a int l) key §a;", "table t rows l (a int l) key (§);", "table t rows l (a int l) key (a§;", "table t rows l (a int l) key (a,§);", "table t rows l (a int l) key (a §b);", "table t rows l (a int l) key (§1);", "table t rows l (a int l) key (a)§", "table t rows l (a int l) key (a) §key (a);", "table t rows l (a int l) key (t§.a);",
		"table t rows l (a int l) hide§;", "table t rows l (a int l) hide §when a;", "table t rows l (a int l) hide m§;", "table t rows l (a int l) hide m §a;", "table t rows l (a int l) hide m when§;", "table t rows l (a int l) hide m when a§", "table t rows l (a int l) hide m when a §hide m when a;", "table t rows l (a int l) hide m when a §key (a);", "table t rows l (a int l) §when a;",
		"channel§", "channel§;", "channel c§", "channel c§;", "channel c§, d l;", "channel c l§", "channel c l §m;", "channel §1 l;", "channel c §'l';", "channel c l§, d l;",
		"principal§", "principal§;", "principal p§;", "principal p l§", "principal p l §m;", "principal §limit l;",
		"limit§", "limit§;", "limit §a;", "limit §-1;", "limit 1§", "limit 1§, 2;", "limit 1 §+ 1;", "limit §'1';", "limit §1000000000000000000;",
	} {
		refusesHere(t, schemas(), s, api.ErrForm)
		refusesHere(t, schemas(), "levels l; limit 1; "+s, api.ErrForm)
	}
}
