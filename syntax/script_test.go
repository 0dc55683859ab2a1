package syntax_test

import (
	"strings"
	"testing"

	"cordon/api"
)

// P6.1, of scripts.

// body is a script of statements alone.
func body(l ...api.Stmt) api.Script { return api.Script{Body: l} }

func one(e ...api.Expr) []api.Expr { return e }

// statements are texts of each kind, with each of its parts there and left out, and what they are at the place 0.
func statements() map[string]api.Stmt {
	a, b, c, q := col("a"), col("b"), col("c"), selA("a")
	skip := func(at int) []api.Stmt { return []api.Stmt{{Kind: api.StSkip, At: at}} }
	return map[string]api.Stmt{
		"set x = a + b;":                     {Kind: api.StSet, Names: []string{"x"}, E: one(bin(a, "+", b))},
		"set x = a = b;":                     {Kind: api.StSet, Names: []string{"x"}, E: one(bin(a, "=", b))},
		"if a { }":                           {Kind: api.StIf, E: one(a)},
		"if a { skip; }":                     {Kind: api.StIf, E: one(a), Body: skip(7)},
		"if a { } else { }":                  {Kind: api.StIf, E: one(a)},
		"if a { } else { skip; }":            {Kind: api.StIf, E: one(a), Else: skip(16)},
		"if a { skip; } else { skip; }":      {Kind: api.StIf, E: one(a), Body: skip(7), Else: skip(22)},
		"while a or b { }":                   {Kind: api.StWhile, E: one(bin(a, "or", b))},
		"while a { skip; }":                  {Kind: api.StWhile, E: one(a), Body: skip(10)},
		"for x in select a as x { }":         {Kind: api.StFor, Names: []string{"x"}, Q: []api.Query{q}},
		"for x, y, z in (select a as x) { }": {Kind: api.StFor, Names: []string{"x", "y", "z"}, Q: []api.Query{q}},
		"for x in select a as x limit 1 { skip; }": {Kind: api.StFor, Names: []string{"x"}, Body: skip(33),
			Q: []api.Query{with(q, func(q *api.Query) { q.Limit = 1 })}},
		"print out a;":                         {Kind: api.StPrint, Table: "out", E: one(a)},
		"print out - a;":                       {Kind: api.StPrint, Table: "out", E: one(neg(a))},
		"print count (a);":                     {Kind: api.StPrint, Table: "count", E: one(a)},
		"input x;":                             {Kind: api.StInput, Names: []string{"x"}},
		"insert into t values (a);":            {Kind: api.StInsert, Table: "t", E: one(a)},
		"insert into t values (a, b or c, c);": {Kind: api.StInsert, Table: "t", E: one(a, bin(b, "or", c), c)},
		"insert into t values ((a), (b));":     {Kind: api.StInsert, Table: "t", E: one(a, b)},
		"insert into t select a as x;":         {Kind: api.StInsertQ, Table: "t", Q: []api.Query{q}},
		"insert into t (select a as x);":       {Kind: api.StInsertQ, Table: "t", Q: []api.Query{q}},
		"insert into t (select a as x) union select b as x;": {Kind: api.StInsertQ, Table: "t",
			Q: []api.Query{put(api.QuUnion, q, selA("b"))}},
		"update t set a = b;":                        {Kind: api.StUpdate, Table: "t", Names: []string{"a"}, E: one(b)},
		"update t set a = b where c;":                {Kind: api.StUpdate, Table: "t", Names: []string{"a"}, E: one(b), Where: one(c)},
		"update t set a = b, c = a + 1, b = 2;":      {Kind: api.StUpdate, Table: "t", Names: []string{"a", "c", "b"}, E: one(b, bin(a, "+", num(1)), num(2))},
		"update t set a = b, a = c where a is null;": {Kind: api.StUpdate, Table: "t", Names: []string{"a", "a"}, E: one(b, c), Where: one(is(0, a))},
		"delete from t;":                             {Kind: api.StDelete, Table: "t"},
		"delete from t where a = b;":                 {Kind: api.StDelete, Table: "t", Where: one(bin(a, "=", b))},
		"try { } catch { }":                          {Kind: api.StTry},
		"try { skip; } catch { }":                    {Kind: api.StTry, Body: skip(6)},
		"try { } catch { skip; }":                    {Kind: api.StTry, Else: skip(16)},
		"raise;":                                     {Kind: api.StRaise},
		"call p();":                                  {Kind: api.StCall, Table: "p"},
		"call p(a);":                                 {Kind: api.StCall, Table: "p", E: one(a)},
		"call p(a, b + c, 1);":                       {Kind: api.StCall, Table: "p", E: one(a, bin(b, "+", c), num(1))},
		"begin;":                                     {Kind: api.StBegin},
		"commit;":                                    {Kind: api.StCommit},
		"rollback;":                                  {Kind: api.StRollback},
		"skip;":                                      {Kind: api.StSkip},
	}
}

// moved is statements by so much further right.
func moved(l []api.Stmt, by int) []api.Stmt {
	var out []api.Stmt
	for _, s := range l {
		s.At += by
		s.Body, s.Else = moved(s.Body, by), moved(s.Else, by)
		out = append(out, s)
	}
	return out
}

func TestStatements(t *testing.T) {
	all := statements()
	for s, want := range all {
		reads(t, scripts(), s, body(want))
		reads(t, scripts(), " \n"+s+"\t-- a remark", body(moved([]api.Stmt{want}, 2)...))
		reads(t, scripts(), "while a {"+s+"}", body(api.Stmt{Kind: api.StWhile, E: one(col("a")), Body: moved([]api.Stmt{want}, 9)}))
		reads(t, scripts(), "proc p() {"+s+"}", api.Script{Procs: []api.Proc{{Name: "p", Body: moved([]api.Stmt{want}, 10)}}})
		for s2, want2 := range all {
			reads(t, scripts(), s+s2, body(append([]api.Stmt{want}, moved([]api.Stmt{want2}, len(s))...)...))
		}
	}
}

// Statements without one of their last tokens, and with one too many behind them.
func TestStatementsCutShort(t *testing.T) {
	for s, x := range statements() {
		cut := s[:len(s)-1]
		refuses(t, scripts(), cut, len(cut), api.ErrForm)
		refuses(t, scripts(), "while a {"+s, len("while a {"+s), api.ErrForm)
		if !strings.HasSuffix(s, "}") {
			refuses(t, scripts(), cut+" skip;", len(cut)+1, api.ErrForm)
			refuses(t, scripts(), "while a {"+cut+"}", len("while a {"+cut), api.ErrForm)
		}
		refuses(t, scripts(), s+";", len(s), api.ErrForm)
		refuses(t, scripts(), s+"}", len(s), api.ErrForm)
		if x.Kind != api.StIf {
			refuses(t, scripts(), s+" else { }", len(s)+1, api.ErrForm)
		}
	}
}

func TestWrongStatements(t *testing.T) {
	for _, s := range []string{
		"§a;", "§a = 1;", "§1;", "§;", "§{ }", "§}", "§(", "§end", "§else { }", "§catch { }", "§values (1);", "§select a as x;", "§levels low;", "§'skip';",
		"set§", "set §= 1;", "set §:x = 1;", "set x §1;", "set x§;", "set x =§", "set x =§;", "set x = 1§", "set x = 1§, y = 2;", "set t§.a = 1;", "set x §<= 1;",
		"if §{ }", "if a§", "if a §then", "if a §skip;", "if a {§", "if a { } else§", "if a { } else §if b { }", "if a { } else { } §else { }", "if a { } §;", "if a { §var x int; }", "if a { §proc p() { } }",
		"while§", "while §{ }", "while a§;", "while a { } §else { }", "while a §do",
		"for§", "for §in select a as x { }", "for x§", "for x §select a as x { }", "for x,§", "for x, §in select a as x { }", "for x in§", "for x in §t { }", "for x in §{ }", "for x in select a as x§", "for x in select a as x§;", "for x in select a as x union §{ }", "for x §y in select a as x { }", "for x, §, y in",
		"print§", "print §1;", "print§;", "print out§", "print out§;", "print out a§, b;", "print out a §b;", "print out §select a as x;", "print out §= 1;", "print out a§",
		"input§", "input§;", "input §1;", "input §:x;", "input x§", "input x§, y;", "input x §= 1;",
		"insert§", "insert §t values (1);", "insert into§", "insert into §values (1);", "insert into t§", "insert into t§;", "insert into t §a;", "insert into t values§", "insert into t values §1;", "insert into t values (§", "insert into t values (§);", "insert into t values (1§", "insert into t values (1,§);", "insert into t values (1)§", "insert into t values (1)§, (2);", "insert into t values (1) §where a;", "insert into t (§a) values (1);", "insert into t (§values (1));", "insert into t values (§select a as x);",
		"update§", "update §set a = 1;", "update t§", "update t §a = 1;", "update t set§", "update t set§;", "update t set §where a;", "update t set a§;", "update t set a =§;", "update t set a = 1§", "update t set a = 1,§;", "update t set a = 1, §where b;", "update t set a = 1 where§;", "update t set a = 1 where b §where c;", "update t set a = 1 where b§, c = 2;", "update t set t§.a = 1;", "update t §as u set a = 1;", "update t set a = 1 §b = 2;",
		"delete§", "delete §t;", "delete from§;", "delete from §where a;", "delete from t§", "delete from t §a;", "delete from t where§;", "delete from t where a§, b;", "delete from t §visible;", "delete from t§, u;",
		"try§", "try§;", "try §skip;", "try {§", "try { }§", "try { } §skip;", "try { } §else { }", "try { } catch§", "try { } catch §skip;", "try { } catch {§", "try { } catch { } §catch { }", "try { } catch { }§;",
		"raise§", "raise §1;", "raise§}", "call§", "call§;", "call §(1);", "call p§", "call p§;", "call p(§", "call p(§,);", "call p(1§", "call p(1,§);", "call p(1)§", "call p(1) §call p(1);", "call p(1 §2);", "call p§.q();", "call count(§*);",
		"begin§", "begin §skip;", "begin§{ }", "commit§", "commit §1;", "rollback§", "rollback §begin;", "skip§", "skip §skip;", "§begins;", "§Skip;", "§SKIP;",
	} {
		refusesHere(t, scripts(), s, api.ErrForm)
		refusesHere(t, scripts(), "skip; "+s, api.ErrForm)
		refusesHere(t, scripts(), "var v int; proc p() { } skip; "+s, api.ErrForm)
	}
}

func TestDeclarations(t *testing.T) {
	x, y, z := api.Var{Name: "x", Type: api.TyInt}, api.Var{Name: "y", Type: api.TyBool}, api.Var{Name: "z", Type: api.TyText}
	skip := func(at int) []api.Stmt { return []api.Stmt{{Kind: api.StSkip, At: at}} }
	for s, want := range map[string]api.Script{
		"":                                    {},
		" -- nothing":                         {},
		"var x int;":                          {Vars: []api.Var{x}},
		"var x int; var y bool; var z text;":  {Vars: []api.Var{x, y, z}},
		"var x int; var x int;":               {Vars: []api.Var{x, x}},
		"var x int; skip;":                    {Vars: []api.Var{x}, Body: skip(11)},
		"proc p() { }":                        {Procs: []api.Proc{{Name: "p"}}},
		"proc p ( ) { skip; }":                {Procs: []api.Proc{{Name: "p", Body: skip(13)}}},
		"proc p(x int) { }":                   {Procs: []api.Proc{{Name: "p", Params: []api.Var{x}}}},
		"proc p(x int, y bool, z text) { }":   {Procs: []api.Proc{{Name: "p", Params: []api.Var{x, y, z}}}},
		"proc p() { var x int; var y bool; }": {Procs: []api.Proc{{Name: "p", Vars: []api.Var{x, y}}}},
		"proc p(x int) { var y bool; skip; } proc q() { } skip;": {
			Procs: []api.Proc{{Name: "p", Params: []api.Var{x}, Vars: []api.Var{y}, Body: skip(28)}, {Name: "q"}}, Body: skip(49)},
		"var x int; proc p() { skip; } proc p() { } skip;": {Vars: []api.Var{x}, Procs: []api.Proc{{Name: "p", Body: skip(22)}, {Name: "p"}}, Body: skip(43)},
		"proc count(sum text) { }":                         {Procs: []api.Proc{{Name: "count", Params: []api.Var{{Name: "sum", Type: api.TyText}}}}},
	} {
		reads(t, scripts(), s, want)
	}
	for _, s := range []string{
		"var§", "var §int;", "var x§", "var x§;", "var x §y;", "var x §null;", "var x §int1;", "var x int§", "var x int§, y int;", "var x int §= 1;", "var x int §null;", "var x int §skip;", "var §1 int;", "var x §'int'",
		"skip; §var x int;", "skip; §proc p() { }", "proc p() { } §var x int;", "proc p() { skip; §var x int; }", "proc p() { §proc q() { } }", "var x int; skip; §var y int;",
		"proc§", "proc §() { }", "proc p§", "proc p§;", "proc p §{ }", "proc p(§", "proc p(§int) { }", "proc p(x§) { }", "proc p(x §y) { }", "proc p(x int§", "proc p(x int,§) { }", "proc p(x int §y int) { }", "proc p(x int §null) { }", "proc p(§,) { }", "proc p()§", "proc p() §skip;", "proc p()§;", "proc p() {§", "proc p() { skip;§", "proc p() { }§;", "proc p() { } §else { }", "proc p() {§{ } }", "proc p() { } §}",
	} {
		refusesHere(t, scripts(), s, api.ErrForm)
	}
}

// At of a statement is its first token's place, whatever stands ahead of it, and in blocks too.
func TestPlacesOfStatements(t *testing.T) {
	s := "-- first\nvar x int;\nproc p() {\n  raise;\n}\nif a {\n  while b { begin; }\n} else {\n  try { commit; } catch {\n    rollback; }\n}\nskip;"
	at := func(what string) int { return strings.Index(s, what) }
	a, b := col("a"), col("b")
	reads(t, scripts(), s, api.Script{
		Vars:  []api.Var{{Name: "x", Type: api.TyInt}},
		Procs: []api.Proc{{Name: "p", Body: []api.Stmt{{Kind: api.StRaise, At: at("raise")}}}},
		Body: []api.Stmt{
			{Kind: api.StIf, At: at("if"), E: one(a),
				Body: []api.Stmt{{Kind: api.StWhile, At: at("while"), E: one(b), Body: []api.Stmt{{Kind: api.StBegin, At: at("begin")}}}},
				Else: []api.Stmt{{Kind: api.StTry, At: at("try"), Body: []api.Stmt{{Kind: api.StCommit, At: at("commit")}}, Else: []api.Stmt{{Kind: api.StRollback, At: at("rollback")}}}}},
			{Kind: api.StSkip, At: at("skip")},
		},
	})
}
