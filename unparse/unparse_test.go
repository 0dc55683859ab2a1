package unparse_test

import (
	"testing"

	"cordon/api"
)

// P7.1, of what is right.

func TestSamples(t *testing.T) {
	for s, all := range samples() {
		for _, x := range all {
			writes(t, x, s)
			if f := faceFor(x); f.model(x) != s {
				t.Errorf("%s %q: the model writes %q", f.name, s, f.model(x))
			}
		}
	}
}

// operands are an expression of each kind, and whether it stands in brackets as an operand.
func operands() map[string]bool {
	return map[string]bool{
		"null": false, "true": false, "7": false, "'s'": false, "a": false, "t.a": false, ":v": false, "case when a then b else c end": false, "exists (select a as x)": false,
		"(select a as x)": false, "count(*)": false, "sum(a or b)": false,
		"a + b": true, "a or b": true, "a = b": true, "a * b": true, "-a": true, "not a": true, "a is null": true, "a is not null": true, "a in (select a as x)": true, "a not in (select a as x)": true,
	}
}

func TestOperands(t *testing.T) {
	q := selA("b")
	for s, compound := range operands() {
		read, at, err := faceFor(api.Expr{}).read(s)
		if err != api.OK {
			t.Fatalf("%q: %d %v", s, at, err)
		}
		x, o := read.(api.Expr), s
		if compound {
			o = "(" + s + ")"
		}
		for _, mark := range []string{"or", "and", "=", "<>", "<", "<=", ">", ">=", "+", "-", "||", "*", "/", "%"} {
			writes(t, bin(x, mark, num(1)), o+" "+mark+" 1")
			writes(t, bin(num(1), mark, x), "1 "+mark+" "+o)
			writes(t, bin(x, mark, x), o+" "+mark+" "+o)
		}
		writes(t, neg(x), "-"+o)
		writes(t, not(x), "not "+o)
		writes(t, is(0, x), o+" is null")
		writes(t, is(1, x), o+" is not null")
		writes(t, in(0, x, q), o+" in (select b as x)")
		writes(t, in(1, x, q), o+" not in (select b as x)")
		// all others are no operands
		writes(t, choice(x, x, x), "case when "+s+" then "+s+" else "+s+" end")
		writes(t, agg("max", x), "max("+s+")")
		writes(t, scalar(sel(item(x, "y"), item(x, "z"))), "(select "+s+" as y, "+s+" as z)")
		writes(t, with(selA("a"), func(q *api.Query) {
			q.From, q.Where, q.Group, q.Having = one(join(api.FrJoin, table("t"), table("u"), x)), one(x), one(x, x), one(x)
			q.Order = one(api.Key{E: x}, api.Key{E: x, Desc: true})
		}), "select a as x from t join u on "+s+" where "+s+" group by "+s+", "+s+" having "+s+" order by "+s+", "+s+" desc")
		writes(t, body(set("x", x), api.Stmt{Kind: api.StPrint, Table: "out", E: one(x)}, api.Stmt{Kind: api.StCall, Table: "p", E: one(x, x)}), "set x = "+s+";\nprint out "+s+";\ncall p("+s+", "+s+");\n")
		writes(t, body(api.Stmt{Kind: api.StInsert, Table: "t", E: one(x, x)}, api.Stmt{Kind: api.StUpdate, Table: "t", Names: one("a", "b"), E: one(x, x), Where: one(x)}, api.Stmt{Kind: api.StDelete, Table: "t", Where: one(x)}),
			"insert into t values ("+s+", "+s+");\nupdate t set a = "+s+", b = "+s+" where "+s+";\ndelete from t where "+s+";\n")
		writes(t, body(api.Stmt{Kind: api.StIf, E: one(x)}, api.Stmt{Kind: api.StWhile, E: one(x)}), "if "+s+" {\n}\nwhile "+s+" {\n}\n")
		writes(t, hidden(x), "table t rows l (a int l) hide h when "+s+";\n")
	}
}

// Each part of a select may be left out, having with group alone.
func TestSelectParts(t *testing.T) {
	parts := []struct {
		text string
		put  func(q *api.Query)
	}{
		{"from t", func(q *api.Query) { q.From = one(table("t")) }},
		{"where b", func(q *api.Query) { q.Where = one(col("b")) }},
		{"group by c", func(q *api.Query) { q.Group = one(col("c")) }},
		{"having d", func(q *api.Query) { q.Having = one(col("d")) }},
		{"order by e", func(q *api.Query) { q.Order = one(api.Key{E: col("e")}) }},
		{"limit 7", func(q *api.Query) { q.Limit = 7 }},
	}
	const group, having = 2, 3
	for set := range 1 << len(parts) {
		s, x := "a as x", selA("a")
		for i, p := range parts {
			if set>>i&1 == 1 {
				s += " " + p.text
				p.put(&x)
			}
		}
		seen := with(x, func(q *api.Query) { q.Distinct = true })
		if set>>having&1 == 1 && set>>group&1 == 0 {
			refuses(t, x, api.ErrForm)
			refuses(t, seen, api.ErrForm)
			continue
		}
		writes(t, x, "select "+s)
		writes(t, seen, "select distinct "+s)
	}
}

// All queries of up to four selects, put together in every way.
func TestPutTogether(t *testing.T) {
	type written struct {
		q    api.Query
		s    string
		lone bool
	}
	words := map[int]string{api.QuUnion: " union ", api.QuUnionAll: " union all ", api.QuExcept: " except ", api.QuIntersect: " intersect "}
	all := [5][]written{1: {{selA("a"), "select a as x", true}}}
	for n := 2; n <= 4; n++ {
		for left := 1; left < n; left++ {
			for _, l := range all[left] {
				for _, r := range all[n-left] {
					for kind, word := range words {
						s := l.s + word + r.s
						if !r.lone {
							s = l.s + word + "(" + r.s + ")"
						}
						all[n] = append(all[n], written{put(kind, l.q, r.q), s, false})
					}
				}
			}
		}
	}
	for _, l := range all {
		for _, x := range l {
			writes(t, x.q, x.s)
		}
	}
	if len(all[4]) != 5*4*4*4 {
		t.Errorf("%d queries of four selects", len(all[4]))
	}
}

// Blocks within blocks: two blanks more in each.
func TestIndents(t *testing.T) {
	x, s := skip(), "skip;"
	wraps := []func(){
		func() { x, s = api.Stmt{Kind: api.StIf, E: one(col("a")), Body: one(x)}, "if a {\n"+s+"\n}" },
		func() {
			x, s = api.Stmt{Kind: api.StIf, E: one(col("a")), Else: one(x), Body: one(x)}, "if a {\n"+s+"\n} else {\n"+s+"\n}"
		},
		func() { x, s = tried(one(x), nil), "try {\n"+s+"\n} catch {\n}" },
		func() { x, s = tried(nil, one(x, skip())), "try {\n} catch {\n"+s+"\nskip;\n}" },
		func() { x, s = api.Stmt{Kind: api.StWhile, E: one(col("b")), Body: one(x)}, "while b {\n"+s+"\n}" },
		func() {
			x, s = api.Stmt{Kind: api.StFor, Names: one("y"), Q: one(selA("a")), Body: one(x)}, "for y in select a as x {\n"+s+"\n}"
		},
	}
	for i := range 12 {
		wraps[i%len(wraps)]()
		writes(t, body(x, x), laid(s, 0)+laid(s, 0))
		writes(t, api.Script{Procs: one(api.Proc{Name: "p", Body: one(x)})}, "proc p() {\n"+laid(s, 1)+"}\n")
	}
}

// laid is lines with two blanks ahead for each brace that is open.
func laid(s string, in int) string {
	var out []byte
	first := true
	for i := range len(s) {
		if first {
			if s[i] == '}' {
				in--
			}
			for range in {
				out = append(out, "  "...)
			}
			first = false
		}
		out = append(out, s[i])
		if s[i] == '{' {
			in++
		}
		first = s[i] == '\n'
	}
	return string(out) + "\n"
}
