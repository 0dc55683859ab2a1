package types_test

import (
	"fmt"
	"reflect"
	"strings"
	"testing"

	"cordon/api"
	"cordon/schema"
	"cordon/syntax"
	"cordon/types"
	"cordon/unparse"
)

func TestExamples(t *testing.T) {
	s, _, err := syntax.Schema("levels low; table t rows low (a int low);")
	if err != api.OK {
		t.Fatal(err)
	}
	w := worldOf(s, nil, one(api.Place{T: "t", Name: "a", Type: api.TyInt}))
	for text, want := range map[string]string{"a + 1": "int", "a || 'x'": "ErrType", "count(*)": "ErrShape"} {
		x := readExpr(t, text)
		if got := kindTold(types.Expr(w.c, w.vars, w.cols, x)); got != want {
			t.Errorf("%s: %s, want %s", text, got, want)
		}
		exprHolds(t, w, x)
	}
	for text, want := range map[string]string{"select count(*) as n from t": "n int", "select a as a, count(*) as n from t": "ErrShape"} {
		q := readQuery(t, text)
		if got := colsTold(types.Query(w.c, w.vars, q)); got != want {
			t.Errorf("%s: %s, want %s", text, got, want)
		}
		queryHolds(t, w, q)
	}
}

// wrong is an expression that layer 7 refuses, and with what.
type wrong struct {
	x    api.Expr
	want api.Errno
}

// wrongExprs have something of which there is no type, for the most part, too.
func wrongExprs() map[string]wrong {
	odd := not(num(1))
	deep := not(num(1))
	for range api.MaxNest {
		deep = not(deep)
	}
	many := sel(numbered(25, func(int) api.Expr { return text(strings.Repeat("x", api.MaxText)) })...)
	return map[string]wrong{
		"the empty one":       {api.Expr{}, api.ErrForm},
		"no such kind":        {api.Expr{Kind: 16}, api.ErrForm},
		"no such mark":        {bin(odd, "?", col("nosuch")), api.ErrForm},
		"a number below 0":    {bin(odd, "+", num(-1)), api.ErrForm},
		"a word as a name":    {bin(col("nosuch"), "+", col("select")), api.ErrForm},
		"a kid too many":      {api.Expr{Kind: api.ExNeg, Kids: one(text("x"), text("y"))}, api.ErrForm},
		"a kid too few":       {api.Expr{Kind: api.ExBin, S: "+", Kids: one(text("x"))}, api.ErrForm},
		"no query":            {api.Expr{Kind: api.ExIn, Kids: one(odd)}, api.ErrForm},
		"no items":            {scalar(sel()), api.ErrForm},
		"an empty query":      {exists(api.Query{}), api.ErrForm},
		"sum of nothing":      {agg("sum"), api.ErrForm},
		"avg":                 {agg("avg", odd), api.ErrForm},
		"a field too many":    {api.Expr{Kind: api.ExNot, N: 1, Kids: one(num(1))}, api.ErrForm},
		"too deep":            {deep, api.ErrDeep},
		"too deep, and long":  {bin(exists(many), "and", deep), api.ErrDeep},
		"too deep, and wrong": {bin(api.Expr{}, "and", deep), api.ErrForm},
		"too long":            {bin(exists(many), "+", odd), api.ErrMany},
	}
}

// P9.1, P9.2: layer 7's error is told ahead of all that is looked at here.
func TestNotRight(t *testing.T) {
	for what, c := range wrongExprs() {
		if _, err := unparse.Expr(c.x); err != c.want {
			t.Fatalf("%s: layer 7 says %v", what, err)
		}
		exprIs(t, what, c.x, errNames[c.want])
		exprIs(t, what+", within", not(c.x), errNames[c.want])
		queryIs(t, what+", an item", sel(col("nosuch"), c.x), errNames[c.want])
		queryIs(t, what+", order", with(sel(col("nosuch")), func(q *api.Query) { q.Order = one(api.Key{E: c.x}) }), errNames[c.want])
		queryIs(t, what+", on", with(sel(num(1)), func(q *api.Query) {
			q.From = one(join(api.FrJoin, table("nosuch", "x"), table("nosuch", "x"), c.x))
		}), errNames[c.want])
	}
	for what, change := range map[string]func(q *api.Query){
		"the empty one":       func(q *api.Query) { *q = api.Query{} },
		"no items":            func(q *api.Query) { q.Items = nil },
		"no such kind":        func(q *api.Query) { q.Kind = 6 },
		"two sources":         func(q *api.Query) { q.From = append(q.From, q.From...) },
		"two wheres":          func(q *api.Query) { q.Where = one(yes(), yes()) },
		"having alone":        func(q *api.Query) { q.Having = one(yes()) },
		"having alone, count": func(q *api.Query) { q.Having = one(bin(agg("count"), ">", num(1))) },
		"limit -2":            func(q *api.Query) { q.Limit = -2 },
		"an empty name":       func(q *api.Query) { q.Items[0].Name = "" },
		"no such source":      func(q *api.Query) { q.From[0].Kind = 5 },
		"a join of a join": func(q *api.Query) {
			q.From[0] = join(api.FrJoin, table("t", "t"), join(api.FrJoin, table("u", "u"), table("v", "v"), yes()), yes())
		},
		"a join of one":      func(q *api.Query) { q.From[0] = api.From{Kind: api.FrJoin, Kids: one(table("t", "t")), On: one(yes())} },
		"a union of one":     func(q *api.Query) { *q = api.Query{Kind: api.QuUnion, Limit: -1, Kids: one(*q)} },
		"a union with items": func(q *api.Query) { *q = api.Query{Kind: api.QuUnion, Limit: -1, Kids: one(*q, *q), Items: q.Items} },
	} {
		q := sel(col("nosuch"))
		q.From = one(table("t", "t"))
		q = with(q, change)
		queryIs(t, what, q, "ErrForm")
		queryIs(t, what+", second", put(api.QuUnion, sel(col("nosuch")), q), "ErrForm")
		exprIs(t, what+", within", bin(col("nosuch"), "+", scalar(q)), "ErrForm")
	}
}

// As deep, and as long, as may be.
func TestEdgesOfTexts(t *testing.T) {
	for depth, want := range map[int]string{api.MaxNest - 1: "int", api.MaxNest: "int", api.MaxNest + 1: "ErrDeep"} {
		x := num(1)
		for range depth - 1 {
			x = choice(yes(), x, null())
		}
		exprIs(t, fmt.Sprint("case, ", depth), x, want)
	}
	for size, want := range map[int]string{api.MaxSource: "text", api.MaxSource + 1: "ErrMany"} {
		exprIs(t, fmt.Sprint("of ", size, " bytes"), sized(t, size), want)
	}
}

// sized is texts put together, whose own text has so many bytes.
func sized(t *testing.T, bytes int) api.Expr {
	t.Helper()
	x := text("")
	for range 18 {
		x = bin(text(strings.Repeat("x", api.MaxText)), "||", x)
	}
	around := func(a, b string) api.Expr { return bin(text(a), "||", bin(text(b), "||", x)) }
	s, err := unparse.Expr(around("", ""))
	if left := bytes - len(s); err == api.OK && left > 0 && left <= 2*api.MaxText {
		return around(strings.Repeat("y", left/2), strings.Repeat("z", left-left/2))
	}
	t.Fatal(len(s), err)
	return x
}

// ErrNil is told ahead of all else, of a catalog that no call made, too.
func TestNil(t *testing.T) {
	for _, c := range []*schema.Catalog{nil, {}} {
		for what, x := range map[string]api.Expr{"right": num(1), "empty": {}, "no type": not(num(1)), "no name": col("nosuch"), "no shape": agg("count"), "query": exists(sel(num(1)))} {
			if got := kindTold(types.Expr(c, ourVars(), ourPlaces(), x)); got != "ErrNil" {
				t.Errorf("%s: %s", what, got)
			}
			if got := colsTold(types.Query(c, ourVars(), sel(x))); got != "ErrNil" {
				t.Errorf("%s: %s", what, got)
			}
		}
		if got := colsTold(types.Query(c, nil, api.Query{})); got != "ErrNil" {
			t.Error(got)
		}
	}
}

// Of a schema without tables there are no columns, but all else is as ever.
func TestEmptySchema(t *testing.T) {
	w := worldOf(api.Schema{Levels: one("only")}, nil, nil)
	for text, want := range map[string]string{
		"select 1 as x": "x int", "select null as x, true as y where null": "x null, y bool", "select count(*) as n": "n int",
		"select 1 as x from t": "ErrName", "select x as y from (select 'a' as x) as q": "y text", "select :i as x": "ErrName", "select i as x": "ErrName",
	} {
		q := readQuery(t, text)
		if got := colsTold(types.Query(w.c, nil, q)); got != want {
			t.Errorf("%s: %s, want %s", text, got, want)
		}
		queryHolds(t, w, q)
	}
	for text, want := range map[string]string{"1 + 2": "int", "a": "ErrName", ":a": "ErrName", "exists (select 1 as x)": "bool", "exists (select 1 as x from t)": "ErrName"} {
		x := readExpr(t, text)
		if got := kindTold(types.Expr(w.c, nil, nil, x)); got != want {
			t.Errorf("%s: %s, want %s", text, got, want)
		}
		exprHolds(t, w, x)
	}
}

// Rules 3 and 5, and P2: what is handed in stays as it is, what is handed out is the caller's own, empty lists are as nil, and no call changes what another one answers.
func TestCallsStandAlone(t *testing.T) {
	w := ours()
	for _, s := range samples() {
		q := readQuery(t, s)
		kept, vars := copied(q), copied(w.vars)
		first, want := types.Query(w.c, w.vars, q)
		told := colsTold(first, want)
		second, _ := types.Query(w.c, w.vars, q)
		for i := range first {
			first[i] = api.Place{T: "spoilt", Name: "spoilt", Type: 9}
		}
		_ = append(first, api.Place{})
		types.Query(w.c, nil, sel(col("nosuch")))
		types.Query(nil, nil, q)
		types.Expr(w.c, w.vars, nil, not(num(1)))
		if got := colsTold(second, want); got != told {
			t.Errorf("%s: two answers share memory: %s, want %s", s, got, told)
		}
		if got := colsTold(types.Query(w.c, w.vars, q)); got != told {
			t.Errorf("%s: %s, and %s ahead", s, got, told)
		}
		if got := colsTold(types.Query(w.c, w.vars, emptied(reflect.ValueOf(q)).Interface().(api.Query))); got != told {
			t.Errorf("%s, with empty lists: %s, want %s", s, got, told)
		}
		if !reflect.DeepEqual(q, kept) || !reflect.DeepEqual(vars, w.vars) {
			t.Errorf("%s: what is handed in is changed", s)
		}
		x := scalar(q)
		cols := copied(w.cols)
		types.Expr(w.c, w.vars, cols, x)
		if !reflect.DeepEqual(x, scalar(kept)) || !reflect.DeepEqual(cols, w.cols) || !reflect.DeepEqual(vars, w.vars) {
			t.Errorf("%s: what is handed in is changed", s)
		}
	}
	if got := w.c.Tables(); !reflect.DeepEqual(got, worldOf(ourSchema(), nil, nil).c.Tables()) {
		t.Errorf("the catalog is changed: %+v", got)
	}
}

// emptied is a value with empty lists in place of nil.
func emptied(v reflect.Value) reflect.Value {
	out := copyOf(v)
	switch v.Kind() {
	case reflect.Slice:
		if v.Len() == 0 {
			return reflect.MakeSlice(v.Type(), 0, 3)
		}
		for i := range v.Len() {
			out.Index(i).Set(emptied(v.Index(i)))
		}
	case reflect.Struct:
		for i := range v.NumField() {
			out.Field(i).Set(emptied(v.Field(i)))
		}
	}
	return out
}

func TestSignatures(t *testing.T) {
	var _ func(c *schema.Catalog, vars []api.Var, cols []api.Place, x api.Expr) (int, api.Errno) = types.Expr
	var _ func(c *schema.Catalog, vars []api.Var, q api.Query) ([]api.Place, api.Errno) = types.Query
}
