package labels_test

import (
	"testing"

	"cordon/api"
	"cordon/labels"
)

// P17.2 (Node). Over the columns of t: i low, ia a, ib b, ih high, and p, pa, pb, ph, s, sa likewise.

func TestLeaves(t *testing.T) {
	marks(t,
		"null", "low", "true", "low", "false", "low", "0", "low", "7", "low", "''", "low", "'x'", "low",
		"i", "low", "ia", "a", "ib", "b", "ih", "high", "pa", "a", "sa", "a", "t.ib", "b",
		":l", "low", ":va", "a", ":vb", "b", ":vh", "high", ":none", "low",
	)
}

// A variable's level is that of the first with its name, whatever stands behind; of none that is not there it is Bottom.
func TestVariables(t *testing.T) {
	for _, c := range ours() {
		level := func(name string) int { return levelOf(c, name) }
		v := api.Node{Kind: api.ExVar, S: "v"}
		for _, x := range []struct {
			vars []api.Named
			want string
		}{
			{nil, "low"}, {[]api.Named{}, "low"}, {one(api.Named{Name: "V", Level: level("high")}, api.Named{Level: level("high")}, api.Named{Name: "vv", Level: level("high")}), "low"},
			{one(api.Named{Name: "v", Level: level("a")}), "a"}, {one(api.Named{Name: "v", Level: level("a")}, api.Named{Name: "v", Level: level("b")}), "a"},
			{one(api.Named{Name: "v", Level: level("high")}, api.Named{Name: "v", Level: level("low")}), "high"}, {one(api.Named{Name: "v", Level: level("low")}, api.Named{Name: "v", Level: level("high")}), "low"},
			{one(api.Named{Name: "w", Level: level("high")}, api.Named{Name: "v", Level: level("b")}), "b"},
		} {
			check(t, x.vars, markTold(c, labels.Node(c, x.vars, nil, v)), x.want)
			check(t, x.vars, sheetTold(c, labels.Plan(c, x.vars, above(api.PlProject, api.Plan{Kind: api.PlOne}, v))), "low: "+x.want)
			check(t, x.vars, markTold(c, labels.Node(c, x.vars, nil, asking(api.ExExists, above(api.PlSelect, api.Plan{Kind: api.PlOne}, v)))), x.want)
		}
		check(t, "a column is no variable", markTold(c, labels.Node(c, one(api.Named{Level: level("high")}), one(level("a")), at(0))), "a")
	}
}

func TestOfOne(t *testing.T) {
	marks(t,
		"not p", "low", "not pa", "a", "not ph", "high", "not not pb", "b",
		"i is null", "low", "ia is null", "a", "ib is not null", "b", ":vh is null", "high",
		"-i", "low raises low", "-ia", "a raises a", "-ih", "high raises high", "-1", "low raises low", "-null", "low raises low", "-:vb", "b raises b", "-:none", "low raises low",
		"(-ia) is null", "a raises a", "(-ib) is not null", "b raises b", "not -ia = 1", "a raises a", "-(-ia)", "a raises a", "-(ia + ib)", "high raises high",
	)
}

// Which operators can raise something, and at which level.
func TestOfTwo(t *testing.T) {
	for _, mark := range []string{"+", "-", "*", "/", "%"} {
		marks(t,
			"i "+mark+" 1", "low raises low", "ia "+mark+" i", "a raises a", "i "+mark+" ib", "b raises b", "ia "+mark+" ib", "high raises high", "1 "+mark+" 2", "low raises low",
			"-ia "+mark+" ib", "high raises high", "null "+mark+" ia", "a raises a",
		)
	}
	marks(t, "s || 'x'", "low raises low", "sa || s", "a raises a", "s || sa", "a raises a", "'a' || 'b'", "low raises low")
	for _, mark := range []string{"=", "<>", "<", "<=", ">", ">="} {
		marks(t, "i "+mark+" 1", "low", "ia "+mark+" i", "a", "i "+mark+" ib", "b", "ia "+mark+" ib", "high", "-ia "+mark+" ib", "high raises a", "ia "+mark+" -ib", "high raises b", "-ia "+mark+" -ib", "high raises high", "-i "+mark+" ih", "high raises low")
	}
	for _, mark := range []string{"and", "or"} {
		marks(t, "p "+mark+" true", "low", "pa "+mark+" p", "a", "p "+mark+" pb", "b", "pa "+mark+" pb", "high", "pa "+mark+" -ib = 1", "high raises b", "-ia = 1 "+mark+" pb", "high raises a")
	}
}

// Of a case: the second and the third are done, and raise, as the first one says.
func TestCase(t *testing.T) {
	marks(t,
		"case when p then i else 1 end", "low", "case when pa then i else 1 end", "a", "case when p then ia else 1 end", "a", "case when p then i else ib end", "b", "case when p then ia else ib end", "high", "case when pa then ib else 1 end", "high",
		"case when -ia = 1 then ib else i end", "high raises a", "case when -ia = 1 then i else 1 end", "a raises a", "case when -i = 1 then ih else i end", "high raises low",
		"case when pb then -ia else i end", "high raises high", "case when pb then i else -ia end", "high raises high", "case when p then -ia else ib end", "high raises a", "case when p then ib else -ia end", "high raises a",
		"case when pb then -i else i end", "b raises b", "case when pb then i else -i end", "b raises b", "case when pb then i else ih end", "high", "case when ph then -i else i end", "high raises high",
		"case when p then -ia else -ib end", "high raises high", "case when pa then -i else -i end", "a raises a",
		"case when -ia = 1 then -i else i end", "a raises a", "case when -ia = 1 then -ib else i end", "high raises high", "case when -ia = 1 then i else -ib end", "high raises high", "case when -ia = ib then -i else i end", "high raises high", "case when -ia = ib then i else 1 end", "high raises a",
		"case when -ia = 1 then -ib else -i end", "high raises high", "case when -i = 1 then -i else -i end", "low raises low", "case when -i = ib then -i else -i end", "b raises b",
		"case when pb then case when p then -ia else i end else 1 end", "high raises high", "case when case when pb then -i = 1 else true end then 1 else 2 end", "b raises b", "case when p then case when pb then i else 1 end else -ia end", "high raises a",
	)
}

func TestAskedOfQueries(t *testing.T) {
	marks(t,
		// exists: the columns do not count
		"exists (select ih as x from t)", "low", "exists (select x as x from u)", "a", "exists (select n as x from k)", "b", "exists (select i as x from v)", "b", "exists (select i as x from v visible)", "low", "exists (select i as x from t where pa)", "a",
		"exists (select 1 as x)", "low", "exists (select -ih as x from t)", "low raises high", "exists (select -i as x from v)", "b raises b", "exists (select i as x from t where pb and -ia = 1)", "high raises a", "exists (select count(*) as n from m)", "low",
		"not exists (select x as x from u)", "a",
		// in: the kid, the rows and the column
		"i in (select i as x from t)", "low", "ia in (select i as x from t)", "a", "i in (select ia as x from t)", "a", "i in (select i as x from v)", "b", "i in (select i as x from v visible)", "low", "ia in (select i as x from v)", "high", "ia in (select j as x from v visible)", "high",
		"i not in (select ib as x from t)", "b", "i in (select 1 as x)", "low", "i in (select n as x from k where n > :va)", "high",
		"-ia in (select i as x from t)", "a raises a", "-ia in (select ib as x from t)", "high raises a", "i in (select -ib as x from t)", "b raises b", "ia in (select -ib as x from t)", "high raises b", "-ia in (select -ib as x from t)", "high raises high", "-ia not in (select i as x from v)", "high raises a", "i in (select -i as x from v)", "b raises b",
		// scalar: the rows and the column; it raises at the rows, as there may be several
		"(select 1 as x)", "low raises low", "(select i as x from t)", "low raises low", "(select ia as x from t)", "a raises low", "(select ih as x from t)", "high raises low", "(select i as x from v)", "b raises b", "(select i as x from v visible)", "low raises low", "(select j as x from v visible)", "b raises low", "(select x as x from u)", "a raises a", "(select z as x from u)", "high raises a",
		"(select count(*) as n from v)", "b raises low", "(select sum(ia) as n from t)", "a raises a", "(select -ia as x from t)", "a raises a", "(select -ia as x from v join t on true)", "high raises high", "(select ia as x from t where pb)", "high raises b", "(select ib as x from t where -ia = 1)", "high raises a",
	)
}

// Queries within expressions that raise, and that do not, and within one another.
func TestQueriesWithin(t *testing.T) {
	marks(t,
		"-(select ia as x from t)", "a raises a", "(select ia as x from t) is null", "a raises low", "(select ia as x from t) = ib", "high raises low", "(select x as x from u) + ib", "high raises high", "not exists (select -ia as x from t)", "low raises a",
		"case when pb then (select i as x from t) else 1 end", "b raises b", "case when pb then 1 else (select ia as x from t) end", "high raises b", "case when pb then exists (select x as x from u) else p end", "high", "case when pb then i in (select -i as x from t) else p end", "b raises b", "case when (select pa as x from t) then 1 else 2 end", "a raises low", "case when exists (select x as x from u) then -ib else 1 end", "high raises high",
		"exists (select i as x from t where exists (select x as x from u))", "a", "exists (select i as x from t where i in (select ib as x from t))", "b", "exists (select i as x from v where (select x as x from u) = 1)", "high raises high", "(select (select ia as x from t) as x)", "a raises low", "(select (select x as x from u) as x from k)", "high raises high",
		"i in (select x as x from (select -ia as x from t) as q)", "a raises a", "exists (select x as x from (select i as x from v) as q where x > :va)", "high",
		"exists (select i as x from t where i > :vh)", "high", "(select :va as x)", "a raises low", "(select :none as x)", "low raises low",
	)
}

// A query within sees no columns from outside, also where its own have other levels.
func TestOwnColumns(t *testing.T) {
	for _, c := range ours() {
		in := asking(api.ExIn, above(api.PlProject, scan(tableU), at(0)), at(low))
		check(t, "in", nodeTold(c, in), "a")
		in = asking(api.ExIn, above(api.PlProject, scan(tableT), at(low)), at(high))
		check(t, "in", nodeTold(c, in), "high")
		in = asking(api.ExIn, above(api.PlProject, api.Plan{Kind: api.PlOne}, yes()), asking(api.ExExists, above(api.PlSelect, scan(tableT), at(a2))))
		check(t, "in", nodeTold(c, in), "a")
		for _, p := range []api.Plan{above(api.PlSelect, scan(tableT), at(low)), above(api.PlOrder, scan(tableT), at(low)), group(scan(tableT), one(low))} { // of t they are low, of what is handed in high
			mark := labels.Node(c, nil, one(levelOf(c, "high")), asking(api.ExExists, p))
			check(t, p.Kind, markTold(c, mark), "low")
		}
	}
}
