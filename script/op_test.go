package script_test

import (
	"fmt"
	"reflect"
	"strings"
	"testing"

	"cordon/algebra"
	"cordon/api"
	"cordon/syntax"
)

// P15.2: all fields of an Op, kind by kind; opOf holds At.

// seen are our variables.
func seen() []api.Var {
	return one(api.Var{Name: "i", Type: api.TyInt}, api.Var{Name: "j", Type: api.TyInt}, api.Var{Name: "b", Type: api.TyBool}, api.Var{Name: "s", Type: api.TyText})
}

// nodes are those of expressions, as texts, over the columns of a table, or of none.
func nodes(t *testing.T, table string, texts ...string) []api.Node {
	t.Helper()
	var cols []api.Place
	if at, is := ours().Table(table); is {
		cols = placesOf(ours().Tables()[at])
	}
	return numbered(len(texts), func(i int) api.Node {
		x, at, err := syntax.Expr(texts[i])
		if err != api.OK {
			t.Fatalf("%q: %d %v", texts[i], at, err)
		}
		return must(algebra.Node(ours(), seen(), cols, x))
	})
}

func plan(t *testing.T, text string) []api.Plan {
	t.Helper()
	q, at, err := syntax.Query(text)
	if err != api.OK {
		t.Fatalf("%q: %d %v", text, at, err)
	}
	return one(must(algebra.Plan(ours(), seen(), q)))
}

func TestOps(t *testing.T) {
	const query = "select a as x, c as y from t where b > :j order by x"
	for text, want := range map[string]api.Op{
		"set j = :i + 1;":                             {Kind: api.StSet, Names: one("j"), E: nodes(t, "", ":i + 1")},
		"set i = (select max(a) as m from t);":        {Kind: api.StSet, Names: one("i"), E: nodes(t, "", "(select max(a) as m from t)")},
		"input j;":                                    {Kind: api.StInput, Names: one("j")},
		"if :b { }":                                   {Kind: api.StIf, E: nodes(t, "", ":b")},
		"while not :b { }":                            {Kind: api.StWhile, E: nodes(t, "", "not :b")},
		"for j, s in " + query + " { }":               {Kind: api.StFor, Names: one("j", "s"), Plan: plan(t, query)},
		"for s, i in " + swapped + " { }":             {Kind: api.StFor, Names: one("s", "i"), Plan: plan(t, swapped)},
		"print out 1;":                                {Kind: api.StPrint, E: nodes(t, "", "1")},
		"print log :s || 'x';":                        {Kind: api.StPrint, N: 1, E: nodes(t, "", ":s || 'x'")},
		"print err null;":                             {Kind: api.StPrint, N: 2, E: nodes(t, "", "null")},
		"insert into w values (true);":                {Kind: api.StInsert, E: nodes(t, "", "true")},
		"insert into u values (:i, 'x');":             {Kind: api.StInsert, N: 3, E: nodes(t, "", ":i", "'x'")},
		"insert into t values (1, null, :s, :b);":     {Kind: api.StInsert, N: 1, E: nodes(t, "", "1", "null", ":s", ":b")},
		"insert into w select d as d from t;":         {Kind: api.StInsertQ, Plan: plan(t, "select d as d from t")},
		"insert into u " + query + ";":                {Kind: api.StInsertQ, N: 3, Plan: plan(t, query)},
		"insert into k select x as p, y as p from u;": {Kind: api.StInsertQ, N: 5, Plan: plan(t, "select x as p, y as p from u")},
		"update w set v = not v;":                     {Kind: api.StUpdate, Cols: one(0), E: nodes(t, "w", "not v")},
		"update t set d = b > a, b = t.a where t.d;": {
			Kind: api.StUpdate, N: 1, Cols: one(3, 1), E: nodes(t, "t", "b > a", "a"), Where: nodes(t, "t", "d"),
		},
		"update h set n = k + :i, s = null where n is null;": {
			Kind: api.StUpdate, N: 2, Cols: one(3, 2), E: nodes(t, "h", "k + :i", "null"), Where: nodes(t, "h", "n is null"),
		},
		"update q set z = 'a', a = b;":  {Kind: api.StUpdate, N: 4, Cols: one(2, 0), E: nodes(t, "q", "'a'", "b")},
		"delete from w;":                {Kind: api.StDelete},
		"delete from k;":                {Kind: api.StDelete, N: 5},
		"delete from k where r = :s;":   {Kind: api.StDelete, N: 5, Where: nodes(t, "k", "r = :s")},
		"delete from q where q.b = a;":  {Kind: api.StDelete, N: 4, Where: nodes(t, "q", "b = a")},
		"call none();":                  {Kind: api.StCall},
		"call two(:i, 'x' || :s);":      {Kind: api.StCall, N: 1, E: nodes(t, "", ":i", "'x' || :s")},
		"try { } catch { }":             {Kind: api.StTry},
		"raise;":                        {Kind: api.StRaise},
		"begin;":                        {Kind: api.StBegin},
		"commit;":                       {Kind: api.StCommit},
		"rollback;":                     {Kind: api.StRollback},
		"skip;":                         {Kind: api.StSkip},
		"if (select d as d from t) { }": {Kind: api.StIf, E: nodes(t, "", "(select d as d from t)")},
	} {
		check(t, text, opOf(t, text), want)
	}
}

// An update names columns, of which it has the places, and no variables: also in blocks and in procedures, and where a variable has a column's name.
func TestUpdatesNameNoVariables(t *testing.T) {
	p := compiles(t, "var b int; proc p(d bool) { var b int; set b = 1; update t set d = :d, b = :b; } "+
		"input b; if true { update t set b = :b; } else { while false { update t set c = 'x', b = a; } } "+
		"for b in select a as x from t { try { update w set v = null; } catch { update h set s = null, n = :b where k > 0; } }", "OK")
	var told []string
	for _, code := range p.Procs {
		walked(reflect.ValueOf(code), func(v reflect.Value) {
			if op, is := v.Interface().(api.Op); is && len(op.Names)+len(op.Cols) > 0 {
				told = append(told, fmt.Sprintf("%s %v %v", kindNames[op.Kind], op.Names, op.Cols))
			}
		})
	}
	check(t, "what they name", told, strings.Split("set [b] []; update [] [3 1]; input [b] []; update [] [1]; update [] [2 1]; for [b] []; update [] [0]; update [] [2 3]", "; "))
}

const swapped = "select c as y, a as x from t visible"

// The nodes and plans of some Ops, written out.
func TestOpsWrittenOut(t *testing.T) {
	check(t, "set", opOf(t, "set j = 7;").E, one(api.Node{Kind: api.ExInt, N: 7}))
	update := opOf(t, "update t set d = null, b = t.b where t.d;")
	check(t, "update", update.E, one(api.Node{Kind: api.ExNull}, api.Node{Kind: api.ExCol, N: 1}))
	check(t, "where", update.Where, one(api.Node{Kind: api.ExCol, N: 3}))
	check(t, "delete", opOf(t, "delete from w where v;").Where, one(api.Node{Kind: api.ExCol}))
	scan := api.Plan{Kind: api.PlScan, N: 1, Width: 4}
	always := api.Plan{Kind: api.PlSelect, Kids: one(scan), E: one(api.Node{Kind: api.ExBool, N: 1}), Width: 4} // as it is made, no simpler one
	check(t, "for", opOf(t, "for i in select a as x from t where true { }").Plan, one(api.Plan{Kind: api.PlProject, Kids: one(always), E: one(api.Node{Kind: api.ExCol}), Width: 1}))
}

// Blocks: Body and Else, in order, within one another.
func TestBlocks(t *testing.T) {
	ahead := ourVars + ourProcs
	text := ahead + "if :b { set i = 1; skip; } else { raise; } " +
		"while :b { if null { } else { for j in select x as x from u { print err :j; } } } " +
		"try { begin; try { } catch { rollback; } } catch { call two(1, null); commit; }"
	at := func(word string) int { return strings.LastIndex(text, word) }
	p := compiles(t, text, "OK")
	loop := api.Op{Kind: api.StFor, At: at("for"), Names: one("j"), Plan: plan(t, "select x as x from u"), Body: one(api.Op{Kind: api.StPrint, At: at("print"), N: 2, E: nodes(t, "", ":j")})}
	check(t, text, p.Procs[2].Body, one(
		api.Op{
			Kind: api.StIf, At: len(ahead), E: nodes(t, "", ":b"),
			Body: one(api.Op{Kind: api.StSet, At: at("set"), Names: one("i"), E: nodes(t, "", "1")}, api.Op{Kind: api.StSkip, At: at("skip")}),
			Else: one(api.Op{Kind: api.StRaise, At: at("raise")}),
		},
		api.Op{Kind: api.StWhile, At: at("while"), E: nodes(t, "", ":b"), Body: one(api.Op{Kind: api.StIf, At: at("if null"), E: nodes(t, "", "null"), Else: one(loop)})},
		api.Op{
			Kind: api.StTry, At: at("try { begin"),
			Body: one(api.Op{Kind: api.StBegin, At: at("begin")}, api.Op{Kind: api.StTry, At: at("try { }"), Else: one(api.Op{Kind: api.StRollback, At: at("rollback")})}),
			Else: one(api.Op{Kind: api.StCall, At: at("call"), N: 1, E: nodes(t, "", "1", "null")}, api.Op{Kind: api.StCommit, At: at("commit")}),
		},
	))
}
