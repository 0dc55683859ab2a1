package script_test

import (
	"testing"

	"cordon/api"
	"cordon/script"
)

// Rules 3, 5 and 6, and P2, of scripts made in a loop: nothing of what is handed in is changed, also not in the room behind lists; what is handed out stays as it is, whatever becomes of what was handed in, and the other way round; a list without members may be nil or empty; and no call, refused or not, changes what another one answers.
func TestApart(t *testing.T) {
	ends := map[string]int{}
	for seed := range 1200 {
		m := makerOf(t, 300000+seed, 150)
		s := m.script()
		want, at, err := script.Compile(m.catalog, s)
		kept, tables, channels := copied(want), m.catalog.Tables(), m.catalog.Channels()
		ends[errNames[err]]++
		room := roomy(s)
		for _, handed := range []api.Script{room, emptied(s), copied(s)} {
			p, again, errAgain := script.Compile(m.catalog, handed)
			if again != at || errAgain != err || !same(p, kept) {
				t.Fatalf("seed %d: %d %v, and %d %v ahead", seed, again, errAgain, at, err)
			}
			if !ownMemory(p, handed, s, want) {
				t.Fatalf("seed %d: memory is shared", seed)
			}
			spoil(&handed)
			if !same(p, kept) {
				t.Fatalf("seed %d: it hangs on what was handed in", seed)
			}
			spoil(&p)
		}
		if !hasRoom(room) {
			t.Fatalf("seed %d: something stands in the room behind a list", seed)
		}
		script.Compile(m.catalog, api.Script{Body: one(api.Stmt{Kind: api.StRaise}, api.Stmt{Kind: api.StCall, Table: "nosuch"})})
		script.Compile(nil, s)
		if !same(m.catalog.Tables(), tables) || !same(m.catalog.Channels(), channels) {
			t.Fatalf("seed %d: the catalog is changed", seed)
		}
		if p, again, errAgain := script.Compile(m.catalog, s); again != at || errAgain != err || !same(p, kept) || !same(want, kept) {
			t.Fatalf("seed %d: another answer than ahead", seed)
		}
	}
	enough(t, ends, 20, "OK", "ErrName", "ErrType", "ErrShape")
}

// One statement, and one list of variables, may stand in many places of a script: what is made of each is its own.
func TestOneListManyTimes(t *testing.T) {
	vars := one(api.Var{Name: "x", Type: api.TyInt})
	body := one(
		api.Stmt{Kind: api.StSet, At: 1, Names: one("x"), E: one(api.Expr{Kind: api.ExVar, S: "x"})},
		api.Stmt{Kind: api.StUpdate, At: 2, Table: "t", Names: one("b"), E: one(api.Expr{Kind: api.ExCol, S: "b"}), Where: one(api.Expr{Kind: api.ExNull})},
	)
	body = append(body, api.Stmt{Kind: api.StTry, At: 3, Body: body, Else: body})
	s := api.Script{Vars: vars, Procs: one(api.Proc{Name: "p", Params: vars, Body: body}, api.Proc{Name: "r", Vars: vars, Body: body}), Body: body}
	p, got := watched(t, ours(), s)
	check(t, "all", got, "OK 0")
	kept := copied(p)
	p.Procs[0].Body[2].Body[0].Names[0] = "y"
	p.Procs[0].Body[1].Cols[0] = 7
	p.Procs[0].Params[0].Name = "y"
	check(t, "the others", p.Procs[1:], kept.Procs[1:])
	check(t, "the Else", p.Procs[0].Body[2].Else, kept.Procs[0].Body[2].Else)
	check(t, "again", must2(script.Compile(ours(), s)), kept)
}

func must2(p api.Program, _ int, err api.Errno) api.Program { return must(p, err) }
