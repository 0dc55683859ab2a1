package unparse_test

import (
	"fmt"
	"math/rand"
	"strings"
	"testing"

	"cordon/api"
	"cordon/syntax"
)

// P7.1, at the bounds.

const most = 999999999999999999

func TestNumbers(t *testing.T) {
	q := func(n int) api.Query { return with(selA("a"), func(q *api.Query) { q.Limit = n }) }
	for _, n := range []int{0, 1, 9, 10, 1 << 31, 1 << 32, most - 1, most} {
		writes(t, num(n), fmt.Sprint(n))
		writes(t, neg(num(n)), fmt.Sprintf("-%d", n))
		writes(t, q(n), fmt.Sprintf("select a as x limit %d", n))
		want := fmt.Sprintf("limit %d;\n", n)
		if n == 0 {
			want = ""
		}
		writes(t, api.Schema{Limit: n}, want)
	}
	for _, n := range []int{-1, -2, -most, most + 1, most + 2, 1<<63 - 1, -1 << 63} {
		refuses(t, num(n), api.ErrForm)
		refuses(t, neg(num(n)), api.ErrForm)
		refuses(t, api.Schema{Limit: n}, api.ErrForm)
		if n != -1 {
			refuses(t, q(n), api.ErrForm)
		}
	}
	writes(t, q(-1), "select a as x")
	for _, n := range []int{-2, 0, 1, 7} {
		x := put(api.QuUnion, selA("a"), selA("b"))
		x.Limit = n
		refuses(t, x, api.ErrForm)
		refuses(t, put(api.QuExcept, selA("a"), x), api.ErrForm)
	}
}

func TestTexts(t *testing.T) {
	for c := range 256 {
		b := string([]byte{byte(c)})
		for _, s := range []string{b, "a" + b, b + "a", "a" + b + "c", b + b, "'" + b} {
			if c < 32 && c != 10 {
				refuses(t, text(s), api.ErrForm)
			} else {
				writes(t, text(s), "'"+strings.ReplaceAll(s, "'", "''")+"'")
			}
		}
	}
	for _, c := range []string{"x", "'", "\n", " ", "\xff", "\x7f", "é", "\xc3"} {
		full := strings.Repeat(c, api.MaxText/len(c))
		writes(t, text(full), "'"+strings.ReplaceAll(full, "'", "''")+"'")
		for _, more := range []string{"x", "'", "é", full} {
			refuses(t, text(full+more), api.ErrForm)
			refuses(t, text(more+full), api.ErrForm)
		}
		refuses(t, text(full[1:]+"\x00"), api.ErrForm)
	}
	writes(t, text("-- no remark"), "'-- no remark'")
	writes(t, bin(text("'"), "||", text("''")), "'''' || ''''''")
	refuses(t, text(strings.Repeat("x", 30000)), api.ErrForm)
}

// namePlace is something with a name in it, and its text, in which that is an @.
type namePlace struct {
	text string
	put  func(name string) any
}

func namePlaces() []namePlace {
	a := one(null())
	v := func(name string) []api.Var { return one(api.Var{Name: name, Type: api.TyInt}) }
	tab := func(change func(x *api.Table)) any { return tables(with(tableT(), change)) }
	return []namePlace{
		{"@", func(s string) any { return col(s) }},
		{"t.@", func(s string) any { return colOf("t", s) }},
		{"@.a", func(s string) any { return colOf(s, "a") }},
		{":@", func(s string) any { return variable(s) }},
		{"-@", func(s string) any { return neg(col(s)) }},
		{"select null as @", func(s string) any { return sel(item(null(), s)) }},
		{"select null as y, null as @", func(s string) any { return sel(item(null(), "y"), item(null(), s)) }},
		{"select a as x from @", func(s string) any { return from(table(s)) }},
		{"select a as x from @ as u", func(s string) any { return from(tableAs(s, "u")) }},
		{"select a as x from t visible as @", func(s string) any {
			return from(api.From{Kind: api.FrTable, Table: "t", As: s, Visible: true})
		}},
		{"select a as x from (select a as x) as @", func(s string) any { return from(fromQuery(selA("a"), s)) }},
		{"select a as x from t join @ on null", func(s string) any { return from(join(api.FrJoin, table("t"), table(s), null())) }},
		{"select a as x from @ left join t on null", func(s string) any { return from(join(api.FrLeft, table(s), table("t"), null())) }},
		{"var @ int;\n", func(s string) any { return api.Script{Vars: v(s)} }},
		{"proc @() {\n}\n", func(s string) any { return api.Script{Procs: one(api.Proc{Name: s})} }},
		{"proc p(@ int) {\n}\n", func(s string) any { return api.Script{Procs: one(api.Proc{Name: "p", Params: v(s)})} }},
		{"proc p() {\n  var @ int;\n}\n", func(s string) any { return api.Script{Procs: one(api.Proc{Name: "p", Vars: v(s)})} }},
		{"set @ = null;\n", func(s string) any { return body(set(s, null())) }},
		{"for @ in select a as x {\n}\n", func(s string) any { return body(api.Stmt{Kind: api.StFor, Names: one(s), Q: one(selA("a"))}) }},
		{"for y, @ in select a as x {\n}\n", func(s string) any {
			return body(api.Stmt{Kind: api.StFor, Names: one("y", s), Q: one(selA("a"))})
		}},
		{"print @ null;\n", func(s string) any { return body(api.Stmt{Kind: api.StPrint, Table: s, E: a}) }},
		{"input @;\n", func(s string) any { return body(api.Stmt{Kind: api.StInput, Names: one(s)}) }},
		{"insert into @ values (null);\n", func(s string) any { return body(api.Stmt{Kind: api.StInsert, Table: s, E: a}) }},
		{"insert into @ select a as x;\n", func(s string) any { return body(api.Stmt{Kind: api.StInsertQ, Table: s, Q: one(selA("a"))}) }},
		{"update @ set y = null;\n", func(s string) any { return body(api.Stmt{Kind: api.StUpdate, Table: s, Names: one("y"), E: a}) }},
		{"update t set @ = null;\n", func(s string) any { return body(api.Stmt{Kind: api.StUpdate, Table: "t", Names: one(s), E: a}) }},
		{"delete from @;\n", func(s string) any { return body(api.Stmt{Kind: api.StDelete, Table: s}) }},
		{"call @();\n", func(s string) any { return body(api.Stmt{Kind: api.StCall, Table: s}) }},
		{"levels @;\n", func(s string) any { return api.Schema{Levels: one(s)} }},
		{"levels y, @;\n", func(s string) any { return api.Schema{Levels: one("y", s)} }},
		{"order @ < y;\n", func(s string) any { return api.Schema{Edges: one(api.Pair{Low: s, High: "y"})} }},
		{"order y < @;\n", func(s string) any { return api.Schema{Edges: one(api.Pair{Low: "y", High: s})} }},
		{"channel @ y;\n", func(s string) any { return api.Schema{Channels: one(api.Pair{Low: s, High: "y"})} }},
		{"channel y @;\n", func(s string) any { return api.Schema{Channels: one(api.Pair{Low: "y", High: s})} }},
		{"principal @ y;\n", func(s string) any { return api.Schema{Principals: one(api.Pair{Low: s, High: "y"})} }},
		{"principal y @;\n", func(s string) any { return api.Schema{Principals: one(api.Pair{Low: "y", High: s})} }},
		{"table @ rows l (a int l);\n", func(s string) any { return tab(func(x *api.Table) { x.Name = s }) }},
		{"table t rows @ (a int l);\n", func(s string) any { return tab(func(x *api.Table) { x.Rows = s }) }},
		{"table t rows l (@ int l);\n", func(s string) any { return tab(func(x *api.Table) { x.Cols[0].Name = s }) }},
		{"table t rows l (a int @);\n", func(s string) any { return tab(func(x *api.Table) { x.Cols[0].Level = s }) }},
		{"table t rows l (a int null @);\n", func(s string) any {
			return tab(func(x *api.Table) { x.Cols[0].Null, x.Cols[0].Level = true, s })
		}},
		{"table t rows l (a int l) key (y, @);\n", func(s string) any { return tab(func(x *api.Table) { x.Key = one("y", s) }) }},
		{"table t rows l (a int l) hide @ when null;\n", func(s string) any { return tab(func(x *api.Table) { x.Hide, x.When = s, a }) }},
	}
}

const words = "all and as begin begins between by call case catch commit delete desc distinct else end except exists for from group having hide if in input insert int into intersect is join key left level levels limit not null on or order principal print proc raise rollback rows select set table text then true try false bool union update values var visible when where while channel skip"

func TestNames(t *testing.T) {
	long := strings.Repeat("n", api.MaxName)
	right := []string{"count", "sum", "min", "max", "x", "Z", "_", "__", "x9", "_9", "asc", "avg", long, long[1:] + "_", "N" + long[1:], "nulls", "Select", "ALL"}
	wrong := []string{long + "n", long + "9", "_" + long, strings.Repeat("n", 30000), " x", "x ", "x y", "9", "9x", "x-y", "x.y", "x;", "x\n", "\tx", "x--", "-x", "x'", "'x'", "é", "xé", "x\x00", "\xff", "x\xc3", ":x", "(x)", "*", "x,y", "x\ny", "-- x", "x -- y"}
	for _, p := range namePlaces() {
		for _, s := range right {
			writes(t, p.put(s), strings.Replace(p.text, "@", s, 1))
		}
		for _, s := range append(wrong, strings.Fields(words)...) {
			refuses(t, p.put(s), api.ErrForm)
		}
		if p.text != "@.a" {
			refuses(t, p.put(""), api.ErrForm)
		}
	}
	writes(t, colOf("", "a"), "a") // of none, so T may be empty
	for _, w := range strings.Fields(words) {
		writes(t, col(w+"_"), w+"_")
		writes(t, colOf(strings.ToUpper(w), "_"+w), strings.ToUpper(w)+"._"+w)
	}
}

func TestSecondNames(t *testing.T) {
	for _, visible := range []bool{false, true} {
		for _, table := range []string{"t", "T", "tt"} {
			for _, as := range []string{"t", "T", "tt"} {
				want := "select a as x from " + table
				if visible {
					want += " visible"
				}
				if as != table {
					want += " as " + as
				}
				writes(t, from(api.From{Kind: api.FrTable, Table: table, As: as, Visible: visible}), want)
			}
		}
	}
}

// wrap puts an expression into another one: by how much deeper it stands there, whether as an operand (in brackets, if it has operands itself, and so one deeper), and how much deeper the other parts go.
type wrap struct {
	put     func(x api.Expr) api.Expr
	deeper  int
	operand bool
	own     int
}

func wraps() []wrap {
	a, q := col("a"), selA("b")
	item1 := func(x api.Expr) api.Query { return sel(item(x, "y")) }
	return []wrap{
		{neg, 1, true, 0},
		{not, 1, true, 0},
		{func(x api.Expr) api.Expr { return is(0, x) }, 0, true, 0},
		{func(x api.Expr) api.Expr { return bin(x, "+", a) }, 0, true, 0},
		{func(x api.Expr) api.Expr { return bin(a, "and", x) }, 0, true, 0},
		{func(x api.Expr) api.Expr { return in(1, x, q) }, 0, true, 2},
		{func(x api.Expr) api.Expr { return in(0, a, item1(x)) }, 2, false, 0},
		{func(x api.Expr) api.Expr { return exists(item1(x)) }, 2, false, 0},
		{func(x api.Expr) api.Expr { return scalar(item1(x)) }, 2, false, 0},
		{func(x api.Expr) api.Expr { return agg("sum", x) }, 1, false, 0},
		{func(x api.Expr) api.Expr { return choice(x, a, a) }, 1, false, 1},
		{func(x api.Expr) api.Expr { return choice(a, x, a) }, 1, false, 1},
		{func(x api.Expr) api.Expr { return choice(a, a, x) }, 1, false, 1},
		{func(x api.Expr) api.Expr { return scalar(with(q, func(q *api.Query) { q.Where = one(x) })) }, 2, false, 2},
		{func(x api.Expr) api.Expr { return scalar(with(q, func(q *api.Query) { q.Group = one(x) })) }, 2, false, 2},
		{func(x api.Expr) api.Expr {
			return scalar(with(q, func(q *api.Query) { q.Group, q.Having = one(a), one(x) }))
		}, 2, false, 2},
		{func(x api.Expr) api.Expr {
			return scalar(with(q, func(q *api.Query) { q.Order = one(api.Key{E: x, Desc: true}) }))
		}, 2, false, 2},
		{func(x api.Expr) api.Expr { return scalar(from(join(api.FrJoin, table("t"), table("u"), x))) }, 2, false, 2},
		{func(x api.Expr) api.Expr { return exists(from(fromQuery(item1(x), "u"))) }, 3, false, 2},
		{func(x api.Expr) api.Expr {
			return exists(from(join(api.FrLeft, fromQuery(item1(x), "u"), table("t"), a)))
		}, 3, false, 2},
		{func(x api.Expr) api.Expr { return exists(put(api.QuUnion, item1(x), q)) }, 2, false, 2},
		{func(x api.Expr) api.Expr { return exists(put(api.QuUnion, q, item1(x))) }, 2, false, 2},
		{func(x api.Expr) api.Expr { return exists(put(api.QuUnion, put(api.QuExcept, q, item1(x)), q)) }, 2, false, 2},
		{func(x api.Expr) api.Expr { return exists(put(api.QuUnion, q, put(api.QuExcept, item1(x), q))) }, 3, false, 3},
	}
}

func hasOperands(x api.Expr) bool {
	switch x.Kind {
	case api.ExBin, api.ExNeg, api.ExNot, api.ExIs, api.ExIn:
		return true
	}
	return false
}

// wrapped is x within w, and how much deeper than itself its text goes, if that of x goes so much deeper.
func (w wrap) wrapped(x api.Expr, deep int) (api.Expr, int) {
	deep += w.deeper
	if w.operand && hasOperands(x) {
		deep++
	}
	return w.put(x), max(deep, w.own)
}

// deepOrNot holds what is answered of x against how deep its text is, and that against how it is read.
func deepOrNot(t *testing.T, x any, deep int) {
	t.Helper()
	f := faceFor(x)
	s := f.model(x)
	if _, _, err := f.read(s); (err == api.ErrDeep) != (deep > api.MaxNest) {
		t.Errorf("%s %q should be %d deep, and is read with %v", f.name, short(s), deep, err)
	}
	if deep > api.MaxNest {
		refuses(t, x, api.ErrDeep)
	} else {
		writes(t, x, s)
	}
}

// expressions that are so deep, in all that expressions stand in.
func inAllPlaces(t *testing.T, x api.Expr, deep int) {
	t.Helper()
	deepOrNot(t, x, 1+deep)
	deepOrNot(t, sel(item(x, "x")), 2+deep)
	deepOrNot(t, put(api.QuExcept, selA("a"), put(api.QuExcept, selA("a"), sel(item(x, "x")))), 3+deep)
	deepOrNot(t, body(set("x", x)), 2+deep)
	deepOrNot(t, body(skip(), api.Stmt{Kind: api.StWhile, E: one(x), Body: one(skip())}), 2+deep)
	deepOrNot(t, body(tried(nil, one(api.Stmt{Kind: api.StPrint, Table: "out", E: one(x)}))), 3+deep)
	deepOrNot(t, api.Script{Procs: one(api.Proc{Name: "p", Body: one(api.Stmt{Kind: api.StCall, Table: "p", E: one(x)})})}, 2+deep)
	deepOrNot(t, body(api.Stmt{Kind: api.StInsertQ, Table: "t", Q: one(sel(item(x, "x")))}), 3+deep)
	deepOrNot(t, hidden(x), 2+deep)
}

// The same within itself, up to the bound and beyond.
func TestNests(t *testing.T) {
	for _, w := range wraps() {
		x, deep := col("a"), 0
		for deep < api.MaxNest+3 {
			x, deep = w.wrapped(x, deep)
			if deep > api.MaxNest-9 {
				inAllPlaces(t, x, deep)
				y, more := wraps()[9].wrapped(x, deep) // one deeper
				inAllPlaces(t, y, more)
			}
		}
	}
}

func TestMixedNests(t *testing.T) {
	rnd := rand.New(rand.NewSource(72))
	all := wraps()
	for range 600 {
		x, deep := col("a"), 0
		most := api.MaxNest - 4 + rnd.Intn(7)
		for deep < most {
			x, deep = all[rnd.Intn(len(all))].wrapped(x, deep)
		}
		inAllPlaces(t, x, deep)
	}
}

// Brackets that the text has, and the expression has not, go deeper on the left, too: what is read flat may be too deep when it is written.
func TestDeepByBrackets(t *testing.T) {
	for _, mark := range []string{"or", "+", "*"} {
		for n := range 45 {
			x, _, err := syntax.Expr("a" + strings.Repeat(" "+mark+" a", n+1))
			if err != api.OK {
				t.Fatal(err)
			}
			deepOrNot(t, x, 1+n)
		}
	}
	x, _, _ := syntax.Expr(strings.Repeat("not ", 21) + "a") // 22 deep as it stands
	refuses(t, x, api.ErrDeep)
	x, _, _ = syntax.Expr(strings.Repeat("not ", 20) + "a")
	writes(t, x, strings.Repeat("not (", 19)+"not a"+strings.Repeat(")", 19))
	q := selA("a") // on the left none is deeper
	for range 300 {
		q = put(api.QuUnion, q, selA("a"))
	}
	writes(t, q, "select a as x"+strings.Repeat(" union select a as x", 300))
	f := table("t")
	for range 300 {
		f = join(api.FrJoin, f, table("t"), yes())
	}
	writes(t, from(f), "select a as x from t"+strings.Repeat(" join t on true", 300))
}

func TestQueriesOnTheRight(t *testing.T) {
	q := selA("a")
	for n := range 45 {
		deepOrNot(t, q, 2+max(0, n-1)) // n of them are put together: but the last one each stands in brackets
		q = put(api.QuUnion, selA("a"), q)
	}
	q = selA("a")
	for n := range 45 {
		deepOrNot(t, q, 2+n)
		q = from(fromQuery(q, "u"))
	}
}

// Blocks within blocks, with each kind of statement in them.
func TestDeepBlocks(t *testing.T) {
	a := one(col("a"))
	blocks := []func(x api.Stmt) api.Stmt{
		func(x api.Stmt) api.Stmt { return api.Stmt{Kind: api.StIf, E: a, Body: one(x)} },
		func(x api.Stmt) api.Stmt { return api.Stmt{Kind: api.StIf, E: a, Else: one(x)} },
		func(x api.Stmt) api.Stmt { return api.Stmt{Kind: api.StWhile, E: a, Body: one(x)} },
		func(x api.Stmt) api.Stmt { return tried(one(x), nil) },
		func(x api.Stmt) api.Stmt { return tried(nil, one(x)) },
	}
	deeper := map[int]int{api.StSet: 1, api.StIf: 1, api.StWhile: 1, api.StFor: 2, api.StPrint: 1, api.StInsert: 1, api.StInsertQ: 2, api.StUpdate: 1, api.StDelete: 1, api.StTry: 1}
	for i, block := range blocks {
		for _, s := range append(smallStmts(), api.Stmt{Kind: api.StDelete, Table: "t"}, api.Stmt{Kind: api.StCall, Table: "p", E: a}) {
			own := deeper[s.Kind]
			if s.Kind == api.StDelete && len(s.Where) == 0 {
				own = 0
			}
			if s.Kind == api.StCall {
				own = len(s.E)
			}
			x := s
			for n := range 44 {
				if n > 34 || n < 3 {
					deepOrNot(t, body(x), 1+n+own)
					deepOrNot(t, api.Script{Procs: one(api.Proc{Name: "p", Body: one(x)})}, 1+n+own)
				}
				x = blocks[(i+n*n)%len(blocks)](x)
			}
			for n := range 44 {
				if x = s; n < 30 {
					continue
				}
				for range n {
					x = block(x)
				}
				deepOrNot(t, body(skip(), x), 1+n+own)
			}
		}
	}
	x, deep := skip(), 1
	for deep < 50 {
		x, deep = api.Stmt{Kind: api.StFor, Names: one("x"), Q: one(selA("a")), Body: one(x)}, deep+1
		deepOrNot(t, body(x), max(deep, deep-1+2))
	}
}

// texts is an expression whose text has so many bytes: texts, the last one of which ends with what fills the rest.
func texts(size int, filler string) api.Expr {
	long := text(strings.Repeat("x", api.MaxText))
	each := len("'' || ()") + api.MaxText
	n := 0
	for size > api.MaxText {
		n, size = n+1, size-each
	}
	left := size - len("''") + len("()") // the innermost of two has no brackets
	wide := len(strings.ReplaceAll(filler, "'", "''"))
	x := text(strings.Repeat("y", left%wide) + strings.Repeat(filler, left/wide))
	for range n {
		x = bin(long, "||", x)
	}
	return x
}

// skips is a script whose text has so many bytes.
func skips(size int) api.Script {
	const short, more = len("skip;\n"), len("raise;\n") - len("skip;\n")
	var x api.Script
	for i := range size / short {
		s := skip()
		if i < size%short/more {
			s.Kind = api.StRaise
		}
		x.Body = append(x.Body, s)
	}
	return x
}

// levels is a schema whose text has so many bytes.
func levels(size int) api.Schema {
	var x api.Schema
	left := size - len("levels ;\n")
	for left > api.MaxName {
		n := min(api.MaxName, left-3) // so that the last one has a byte
		x.Levels = append(x.Levels, strings.Repeat("n", n))
		left -= n + len(", ")
	}
	x.Levels = append(x.Levels, strings.Repeat("m", left))
	return x
}

func TestMaxSource(t *testing.T) {
	for _, size := range []int{api.MaxSource - 700, api.MaxSource - 2, api.MaxSource - 1, api.MaxSource, api.MaxSource + 1, api.MaxSource + 2, api.MaxSource + 3, api.MaxSource + 1500, api.MaxSource + 9000} {
		for _, x := range []any{texts(size, "x"), texts(size, "'"), texts(size, "é"), skips(size), levels(size)} {
			f := faceFor(x)
			s := f.model(x)
			if len(s) != size {
				t.Fatalf("%s %q has %d bytes, want %d", f.name, short(s), len(s), size)
			}
			got, err := f.write(x)
			switch {
			case size > api.MaxSource:
				refuses(t, x, api.ErrMany)
			case got != s || err != api.OK:
				t.Errorf("%s of %d bytes: %q %v", f.name, size, short(got), err)
			}
			e, ok := x.(api.Expr)
			if !ok {
				continue
			}
			for _, q := range []any{sel(item(e, "x")), body(set("x", e)), hidden(e), exists(sel(item(e, "x")))} {
				s := faceFor(q).model(q)
				if len(s) > api.MaxSource {
					refuses(t, q, api.ErrMany)
				} else {
					writes(t, q, s)
				}
			}
		}
	}
}

// The bound is told in bytes alone: what has more tokens than a text may have is written.
func TestManyTokens(t *testing.T) {
	x := api.Stmt{Kind: api.StCall, Table: "p"}
	for range 6000 {
		x.E = append(x.E, num(1))
	}
	want := "call p(" + strings.Repeat("1, ", 5999) + "1);\n"
	if got, err := faceFor(body(x)).write(body(x)); got != want || err != api.OK {
		t.Errorf("%q %v", short(got), err)
	}
}

// Of what is wrong, too deep and too long at once, what is named first is told, wherever each stands.
func TestFirstIsTold(t *testing.T) {
	deep := col("a")
	for range api.MaxNest {
		deep = agg("max", deep)
	}
	long := choice(null(), null(), null())
	for i := range long.Kids {
		x := text(strings.Repeat("x", api.MaxText))
		for range 9 {
			x = bin(x, "||", text(strings.Repeat("x", api.MaxText)))
		}
		long.Kids[i] = x
	}
	refuses(t, deep, api.ErrDeep)
	refuses(t, long, api.ErrMany)
	for _, wrong := range []api.Expr{{}, num(-1), col("or"), col(""), not(col("9")), with(null(), func(x *api.Expr) { x.N = 1 }), scalar(api.Query{}), text("\x01"), text(strings.Repeat("x", api.MaxText+1))} {
		wrongDeep := wrong
		for range api.MaxNest {
			wrongDeep = agg("max", wrongDeep)
		}
		refuses(t, wrongDeep, api.ErrForm)
		for _, l := range orders([]api.Expr{wrong, deep, long}) {
			for _, x := range inLists(l) {
				refuses(t, x, api.ErrForm)
			}
		}
		for _, l := range orders([]api.Expr{wrongDeep, col("a"), long}) {
			for _, x := range inLists(l) {
				refuses(t, x, api.ErrForm)
			}
		}
	}
	for _, l := range orders([]api.Expr{col("a"), deep, long}) {
		for _, x := range inLists(l) {
			refuses(t, x, api.ErrDeep)
		}
	}
	for _, l := range orders([]api.Expr{col("a"), num(1), long}) {
		for _, x := range inLists(l) {
			refuses(t, x, api.ErrMany)
		}
	}
}

func orders(l []api.Expr) [][]api.Expr {
	var out [][]api.Expr
	for _, o := range [][3]int{{0, 1, 2}, {0, 2, 1}, {1, 0, 2}, {1, 2, 0}, {2, 0, 1}, {2, 1, 0}} {
		out = append(out, []api.Expr{l[o[0]], l[o[1]], l[o[2]]})
	}
	return out
}

// inLists is three expressions one behind the other, in several ways.
func inLists(l []api.Expr) []any {
	return []any{
		choice(l[0], l[1], l[2]),
		bin(bin(l[0], "+", l[1]), "-", l[2]),
		sel(item(l[0], "x"), item(l[1], "y"), item(l[2], "z")),
		put(api.QuUnion, put(api.QuUnion, sel(item(l[0], "x")), sel(item(l[1], "x"))), sel(item(l[2], "x"))),
		from(join(api.FrJoin, join(api.FrLeft, table("t"), table("u"), l[0]), fromQuery(sel(item(l[1], "x")), "u"), l[2])),
		with(sel(item(l[0], "x")), func(q *api.Query) { q.Where, q.Order = one(l[1]), one(api.Key{E: l[2]}) }),
		body(set("x", l[0]), tried(one(set("x", l[1])), one(set("x", l[2])))),
		api.Script{Procs: one(api.Proc{Name: "p", Body: one(set("x", l[0]))}, api.Proc{Name: "q", Body: one(set("x", l[1]))}), Body: one(set("x", l[2]))},
		api.Schema{Tables: append(append(hidden(l[0]).Tables, hidden(l[1]).Tables...), hidden(l[2]).Tables...)},
	}
}

// Very many within one another end, too: on the left, where nothing is deeper, and elsewhere.
func TestVeryDeep(t *testing.T) {
	const n = 60000
	for _, innermost := range []api.Expr{col("a"), {}} {
		want := map[bool]api.Errno{true: api.ErrDeep, false: api.ErrForm}[innermost.Kind == api.ExCol]
		for _, w := range []wrap{wraps()[0], wraps()[2], wraps()[4], wraps()[7], wraps()[11]} {
			x := innermost
			for range n / max(1, w.deeper) {
				x = w.put(x)
			}
			refusesUnseen(t, x, want)
		}
		x := set("x", innermost)
		q, f := sel(item(innermost, "x")), join(api.FrJoin, table("t"), table("u"), innermost)
		for range n {
			x = tried(nil, one(x))
			q = put(api.QuUnion, q, selA("a"))
			f = join(api.FrLeft, f, table("u"), yes())
		}
		refusesUnseen(t, body(x), want)
		if want == api.ErrDeep {
			want = api.ErrMany
		}
		refusesUnseen(t, q, want)
		refusesUnseen(t, from(f), want)
	}
}

// refusesUnseen does not write what is refused as the model would.
func refusesUnseen(t *testing.T, x any, want api.Errno) {
	t.Helper()
	if got, err := faceFor(x).write(x); err != want || got != "" {
		t.Errorf("%T: %q %v, want %v", x, short(got), err, want)
	}
}
