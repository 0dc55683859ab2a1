package script_test

import (
	"fmt"
	"slices"
	"strings"
	"testing"

	"cordon/api"
	"cordon/schema"
	"cordon/script"
)

// wrong are scripts of which all is wrong that may be told behind what a test is about: names that stand twice, and a statement.
func wrong() []api.Script {
	twice := one(api.Var{Name: "x", Type: api.TyInt}, api.Var{Name: "x", Type: api.TyInt})
	bad := one(api.Stmt{Kind: api.StCall, At: 5, Table: "nosuch"})
	return []api.Script{
		{},
		{Body: bad},
		{Vars: twice},
		{Vars: twice, Body: bad},
		{Procs: one(api.Proc{Name: "p", Params: twice}, api.Proc{Name: "p", Body: bad}), Body: bad},
	}
}

// P15.1: the chapter's example.
func TestExamples(t *testing.T) {
	p := compiles(t, "var x int; set x = 1; print out :x;", "OK")
	check(t, "two Ops", p, api.Program{Procs: one(api.Code{
		Vars: one(api.Var{Name: "x", Type: api.TyInt}),
		Body: one(
			api.Op{Kind: api.StSet, At: 11, Names: one("x"), E: one(api.Node{Kind: api.ExInt, N: 1})},
			api.Op{Kind: api.StPrint, At: 22, E: one(api.Node{Kind: api.ExVar, S: "x"})},
		),
	})})
	compiles(t, "var x int; ^set x = 'a'; print out :x;", "ErrType")
	compiles(t, "var x int; ^set x = 'a';", "ErrType")
}

// P15.1: ErrNil is told ahead of all else, and also of a catalog that no call made.
func TestNoCatalog(t *testing.T) {
	scripts := append(wrong(), api.Script{Body: one(api.Stmt{Kind: 99})}, api.Script{Vars: one(api.Var{})}, scriptOf(t, "var x int; set x = 1; print out :x;"))
	for _, s := range scripts {
		for _, c := range []*schema.Catalog{nil, {}} {
			if _, got := watched(t, c, s); got != "ErrNil 0" {
				t.Errorf("%+v: %s", s, got)
			}
		}
	}
}

// refused are scripts that layer 7 refuses, by its errors. Their statements are right otherwise.
func refused() map[api.Errno][]api.Script {
	skip := api.Stmt{Kind: api.StSkip}
	out := map[api.Errno][]api.Script{
		api.ErrForm: {
			{Vars: one(api.Var{Name: "", Type: api.TyInt})}, {Vars: one(api.Var{Name: "select", Type: api.TyInt})}, {Vars: one(api.Var{Name: "v"})}, {Vars: one(api.Var{Name: "v", Type: 4})},
			{Procs: one(api.Proc{})}, {Procs: one(api.Proc{Name: "a b"})}, {Procs: one(api.Proc{Name: "r", Params: one(api.Var{Name: "v"})})}, {Procs: one(api.Proc{Name: "r", Body: one(api.Stmt{})})},
			{Body: one(api.Stmt{Kind: 18})}, {Body: one(api.Stmt{Kind: -1})}, {Body: one(api.Stmt{Kind: api.StSkip, Table: "t"})}, {Body: one(api.Stmt{Kind: api.StSet, Names: one("v")})},
			{Body: one(api.Stmt{Kind: api.StPrint, Table: "out", E: one(api.Expr{Kind: api.ExInt, N: -1})})}, {Body: one(api.Stmt{Kind: api.StPrint, Table: "out", E: make([]api.Expr, 2)})},
			{Body: one(api.Stmt{Kind: api.StTry, Else: one(api.Stmt{Kind: 18})})}, {Body: one(api.Stmt{Kind: api.StUpdate, Table: "t", Names: one("b"), Where: one(api.Expr{Kind: api.ExNull})})},
			{Body: one(api.Stmt{Kind: api.StDelete, Table: "t", Where: make([]api.Expr, 2)})}, {Body: one(api.Stmt{Kind: api.StFor, Names: one("v")})}, {Body: one(api.Stmt{Kind: api.StInsert, Table: "w"})},
		},
		api.ErrMany: {{Body: slices.Repeat(one(skip), 4000)}, {Procs: one(api.Proc{Name: "r", Body: slices.Repeat(one(skip), 4000)})}},
	}
	deep, not := skip, api.Expr{Kind: api.ExNull}
	for range api.MaxNest {
		deep = api.Stmt{Kind: api.StTry, Body: one(deep)}
		not = api.Expr{Kind: api.ExNot, Kids: one(not)}
	}
	out[api.ErrDeep] = []api.Script{{Body: one(deep)}, {Procs: one(api.Proc{Name: "r", Body: one(deep)})}, {Body: one(api.Stmt{Kind: api.StPrint, Table: "out", E: one(not)})}}
	return out
}

// P15.1: unparse's error is told ahead of names that stand twice and of statements that are not right, and has no place.
func TestRefused(t *testing.T) {
	for err, scripts := range refused() {
		for _, s := range scripts {
			for _, w := range wrong() {
				for _, both := range []api.Script{
					{Vars: slices.Concat(w.Vars, s.Vars), Procs: slices.Concat(w.Procs, s.Procs), Body: slices.Concat(w.Body, s.Body)},
					{Vars: slices.Concat(s.Vars, w.Vars), Procs: slices.Concat(s.Procs, w.Procs), Body: slices.Concat(s.Body, w.Body)},
				} {
					if _, got := watched(t, ours(), both); got != errNames[err]+" 0" {
						t.Errorf("%+v: %s", both, got)
					}
				}
			}
		}
	}
}

// As long, and as deep, as layer 7 lets through: no part of it is then refused for itself.
func TestAtBounds(t *testing.T) {
	s := api.Script{Body: slices.Repeat(one(api.Stmt{Kind: api.StSkip, At: -7}), 3333)} // lines of six bytes
	if p, got := watched(t, ours(), s); got != "OK 0" || len(p.Procs[0].Body) != 3333 {
		t.Error(got)
	}
	s.Body = append(s.Body, s.Body[0])
	if _, got := watched(t, ours(), s); got != "ErrMany 0" {
		t.Error(got)
	}
	kinds := map[string]int{}
	for deep := range api.MaxNest + 3 {
		not, block := api.Expr{Kind: api.ExNull}, api.Stmt{Kind: api.StCall, At: 9, Table: "nosuch"}
		for range deep {
			not = api.Expr{Kind: api.ExNot, Kids: one(not)}
			block = api.Stmt{Kind: api.StWhile, At: 8, E: one(api.Expr{Kind: api.ExNull}), Body: one(block)}
		}
		print := api.Stmt{Kind: api.StPrint, Table: "out", E: one(not)}
		for _, body := range [][]api.Stmt{{print}, {block}, {print, block}} {
			_, got := watched(t, ours(), api.Script{Body: body})
			kinds[got]++
		}
	}
	enough(t, kinds, 2, "OK 0", "ErrDeep 0", "ErrName 9")
}

// P15.1: names that stand twice are ErrName without a place, also where a statement is not right besides.
func TestTwice(t *testing.T) {
	for _, text := range []string{
		"proc p() { } proc p() { } @",
		"proc p() { } proc r() { } proc p(a int) { } @",
		"proc p(a int, a int) { } @",
		"proc p(a int, b int, a text) { } @",
		"proc p() { var a int; var a int; } @",
		"proc p() { var a int; var b int; var a bool; @ } @",
		"proc p(a int) { var a int; } @",
		"proc p(a int, b text) { var c int; var b text; @ } @",
		"proc r(a int) { } proc p(a int) { @ } proc s() { var a int; var a int; }",
		"var a int; var a int; @",
		"var a int; var b int; var a text; @",
		"var a int; var a int; proc p(a int) { @ } @",
		"var a int; proc p() { @ } proc r(b int) { var b int; } @",
	} {
		for _, stmt := range []string{"", "skip;", "set nosuch = 1;", "print out 1 + 'a';", "call nosuch(1);", "insert into w values (1, 2);", "raise; update t set a = 1;"} {
			compiles(t, strings.ReplaceAll(text, "@", stmt), "ErrName")
		}
	}
	compiles(t, "proc p() { set nosuch = 1; } proc p() { }", "ErrName")
}

// Names that stand in two places where they may.
func TestNotTwice(t *testing.T) {
	for _, text := range []string{
		"",
		"var a int; proc p(a int) { } proc r() { var a text; } set a = 1;",
		"var a int; proc p() { var a bool; set a = true; } set a = 1;",
		"var a int; proc p(a text) { set a = 'x'; } set a = 1; call p('y');",
		"proc a(a int) { call a(:a); } call a(1);",
		"var a int; proc a() { var b int; } proc b(b int) { } call a(); call b(:a);",
		"var t int; var out int; proc t(w int) { set w = (select count(*) as w from w); } proc out() { } set t = 1; set out = :t; print out :out; call t(:t); call out(); delete from t where t.a = :t;",
		"var a int; var A int; set a = 1; set A = :a;", // capitals are other letters
	} {
		compiles(t, text, "OK")
	}
	compiles(t, "var a int; ^set A = 1;", "ErrName")
	compiles(t, "var a int; proc p() { } ^call P();", "ErrName")
}

// A procedure sees its parameters and its variables, the script its variables, and none sees those of another.
func TestSeen(t *testing.T) {
	for _, c := range []struct{ text, want string }{
		{"var x int; proc p(y int) { var u int; set y = :u; set u = :y; input y; input u; for y, u in select 1 as a, 2 as b { } } set x = 1; input x;", "OK"},
		{"var x int; proc p() { ^set x = 1; }", "ErrName"},
		{"var x int; proc p() { ^input x; }", "ErrName"},
		{"var x int; proc p() { ^for x in select 1 as a { } }", "ErrName"},
		{"var x int; proc p() { ^print out :x; }", "ErrName"},
		{"var x int; proc p() { ^if :x = 1 { } }", "ErrName"},
		{"var x int; proc p() { ^insert into w select :x = 1 as v; }", "ErrName"},
		{"var x int; proc p() { ^update t set b = :x; }", "ErrName"},
		{"var x int; proc p(a int) { ^call p(:x); } call p(:x);", "ErrName"},
		{"proc p(x int) { } ^set x = 1;", "ErrName"},
		{"proc p() { var x int; } ^input x;", "ErrName"},
		{"proc p() { var x int; set x = 1; } ^for x in select 1 as a { }", "ErrName"},
		{"proc p(x int) { } ^print out :x;", "ErrName"},
		{"proc p(x int) { } proc r() { ^set x = 1; }", "ErrName"},
		{"proc r() { ^set x = 1; } proc p(x int) { var y int; }", "ErrName"},
		{"proc r() { ^print out :y; } proc p(x int) { var y int; }", "ErrName"},
		{"var x int; proc p(x text) { set x = 'a'; } set x = 1;", "OK"},
		{"var x int; proc p(x text) { ^set x = 1; } set x = 1;", "ErrType"},
		{"var x int; proc p() { var x text; set x = 'a'; } ^set x = 'a';", "ErrType"},
		{"var x int; proc p(x text) { } call p('a'); ^call p(:x);", "ErrType"},
		{"var x text; proc p(x int) { ^set x = 'a'; }", "ErrType"},
		{"var x text; proc p(x int) { input x; } ^input x;", "ErrType"},
	} {
		compiles(t, c.text, c.want)
	}
}

// Calls of procedures that stand anywhere, also of itself.
func TestCalls(t *testing.T) {
	p := compiles(t, "proc a() { call b(1); call c('x', null); call a(); } proc b(n int) { call a(); call b(:n - 1); call c('x', true); } proc c(s text, f bool) { } call c(null, 1 > 2); call a(); call b(2);", "OK")
	want := [][]int{{1, 2, 0}, {0, 1, 2}, {}, {2, 0, 1}}
	for i, code := range p.Procs {
		got := numbered(len(code.Body), func(i int) int { return code.Body[i].N })
		check(t, i, got, want[i])
	}
	compiles(t, "proc a(n int) { ^call a(); }", "ErrShape")
	compiles(t, "proc a(n int) { ^call a('x'); }", "ErrType")
	compiles(t, "proc a() { ^call b(); } proc b(n int) { }", "ErrShape")
	compiles(t, "proc a() { ^call b('x'); } proc b(n int) { }", "ErrType")
	compiles(t, "proc a() { ^call c(); } proc b(n int) { }", "ErrName")
	compiles(t, "proc b(n int) { } proc a() { call b(1); ^call b('x'); }", "ErrType")
	compiles(t, "proc a() { } ^call script();", "ErrName")
}

// The first statement that is not right: procedures in order, then the script itself.
func TestInOrder(t *testing.T) {
	for _, text := range []string{
		"proc a() { ^set z = 1; } proc b() { print out 1 + 'a'; } call a(1);",
		"proc a() { } proc b() { while null { ^set z = 1; } print out 1 + 'a'; } call a(1);",
		"proc b(n int) { call a(); } proc a() { } ^set z = 1; call a(1);",
		"proc a() { try { } catch { ^set z = 1; } } proc b() { call a(1); } print out 1 + 'a';",
	} {
		compiles(t, text, "ErrName")
	}
	compiles(t, "proc a() { skip; } proc b() { skip; ^print out 1 + 'a'; } set z = 1;", "ErrType")
	compiles(t, "proc a() { if true { ^for z in select 1 as x { } } } set z = 'a' + 1;", "ErrName")
}

// The place is the statement's At, whatever that is, also of one in blocks; no other statement's.
func TestAnyPlace(t *testing.T) {
	bad := api.Stmt{Kind: api.StInput, Names: one("x")}
	for _, at := range []int{0, 1, -1, 42, 1<<63 - 1, -1 << 63} {
		bad.At = at
		skip := api.Stmt{Kind: api.StSkip, At: at - 1}
		for i, body := range [][]api.Stmt{
			{bad}, {skip, bad, skip}, {{Kind: api.StTry, At: 3, Body: one(bad)}}, {{Kind: api.StTry, At: 3, Body: one(skip), Else: one(skip, bad)}, skip},
			{{Kind: api.StWhile, At: 3, E: one(api.Expr{Kind: api.ExNull}), Body: one(api.Stmt{Kind: api.StTry, At: 4, Else: one(bad)})}},
		} {
			for _, s := range []api.Script{{Body: body}, {Procs: one(api.Proc{Name: "p", Body: body})}, {Procs: one(api.Proc{Name: "p"}, api.Proc{Name: "r", Body: body}), Body: one(skip)}} {
				if _, got := watched(t, ours(), s); got != fmt.Sprint("ErrName ", at) {
					t.Errorf("%d: %s at %d", i, got, at)
				}
			}
		}
	}
}

// The program: a Code of each procedure, in order, and at last one of what the script does itself.
func TestProgram(t *testing.T) {
	is := func(name string, kind int) api.Var { return api.Var{Name: name, Type: kind} }
	check(t, "nothing", compiles(t, "", "OK"), api.Program{Procs: one(api.Code{})})
	check(t, "variables", compiles(t, "var b int; var a text;", "OK"), api.Program{Procs: one(api.Code{Vars: one(is("b", api.TyInt), is("a", api.TyText))})})
	check(t, "a procedure", compiles(t, "proc p() { }", "OK"), api.Program{Procs: one(api.Code{Name: "p"}, api.Code{})})
	text := "var x bool; var w int; proc r(c int, a text) { var b bool; var z int; skip; } proc a(x text) { raise; } proc c() { var y int; } commit; begin;"
	check(t, text, compiles(t, text, "OK"), api.Program{Procs: one(
		api.Code{Name: "r", Params: one(is("c", api.TyInt), is("a", api.TyText)), Vars: one(is("b", api.TyBool), is("z", api.TyInt)), Body: one(api.Op{Kind: api.StSkip, At: strings.Index(text, "skip")})},
		api.Code{Name: "a", Params: one(is("x", api.TyText)), Body: one(api.Op{Kind: api.StRaise, At: strings.Index(text, "raise")})},
		api.Code{Name: "c", Vars: one(is("y", api.TyInt))},
		api.Code{Vars: one(is("x", api.TyBool), is("w", api.TyInt)), Body: one(api.Op{Kind: api.StCommit, At: strings.Index(text, "commit")}, api.Op{Kind: api.StBegin, At: strings.Index(text, "begin")})},
	)})
}

func TestSignature(t *testing.T) {
	var _ func(c *schema.Catalog, s api.Script) (api.Program, int, api.Errno) = script.Compile
}
