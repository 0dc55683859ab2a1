package derive_test

import (
	"reflect"
	"testing"

	"cordon/api"
	"cordon/derive"
	"cordon/schema"
)

// standsAlone makes a proof, twice, has proofs verified, and looks at what is changed, kept and shared.
func standsAlone(t *testing.T, c *schema.Catalog, p api.Program, others ...api.Proof) (api.Proof, bool) {
	t.Helper()
	p = roomy(p)
	was, tables, channels := copied(p), c.Tables(), c.Channels()
	first, ok := derive.Make(c, p)
	told := copied(first)
	second, again := derive.Make(c, p)
	if ok != again || !same(first, second) || !ok && !isNothing(first) {
		t.Errorf("%v, %+v, and then %v, %+v", ok, first, again, second)
	}
	if !ownMemory(first, second, p) || !ownMemory(second, first, p) {
		t.Error("memory is shared")
	}
	spoil(&first)
	for _, x := range append(others, second, emptied(second), api.Proof{}) {
		staysAsItIs(t, c, p, x)
	}
	if third, _ := derive.Make(c, emptied(was)); !same(third, told) {
		t.Errorf("%+v, and then %+v", told, third)
	}
	if !same(p, was) || !hasRoom(p) || !reflect.DeepEqual(c.Tables(), tables) || !reflect.DeepEqual(c.Channels(), channels) {
		t.Error("what was handed in is changed")
	}
	third, _ := derive.Make(c, p)
	spoil(&p)
	if !same(third, told) {
		t.Errorf("%+v, when the program is another one %+v", told, third)
	}
	return told, ok
}

// staysAsItIs has a proof verified, twice.
func staysAsItIs(t *testing.T, c *schema.Catalog, p api.Program, x api.Proof) {
	t.Helper()
	x = roomy(x)
	was := copied(x)
	is := derive.Verify(c, p, x)
	check(t, "again", derive.Verify(c, p, x), is)
	check(t, "with empty lists", derive.Verify(c, emptied(p), emptied(x)), is)
	if !same(x, was) || !hasRoom(x) {
		t.Errorf("%+v is changed to %+v", was, x)
	}
}

// Rules 3, 5 and 6, P2, of each kind of statement, with a proof and without one.
func TestStandAlone(t *testing.T) {
	for _, c := range benchOf("table n rows low (x int low, y int null a) key (x) hide b when x = 1;") {
		standsAlone(t, c, api.Program{})
		came := map[bool]int{}
		for _, stmt := range []string{
			"", "set l = 1;", "set va = -:va;", "if :va > 0 { print ca 1; } else { skip; }", "if :va > 0 { print out 1; } else { input l; }", "while :va > 0 { print ca 1; raise; }", "for va in select -ia as x from t where pb { skip; }", "for l in select -ia as x from t where pb { begin; }", "try { print ca -:va; } catch { skip; }", "try { print out -:vb; } catch { commit; rollback; skip; }",
			"insert into n values (:l, :va);", "insert into n values (:va, 1);", "insert into n select ia as x, ib as y from t;", "update n set y = 1 where y > 0;", "delete from n where x > 0;", "delete from n where -y > 0;", "call p(:va);", "call p(:va); call q();", "begin; commit; rollback;",
		} {
			text := withPreamble("var x int; proc p(n int) { var m int; set m = :n; call q(); } proc q() { call p(1); raise; } | " + stmt + " skip;")
			m := read(t, c, text)
			least := modelOf(c, m).least()
			_, ok := standsAlone(t, c, m.p, least, edited(t, c, m.p, least, "1.pc=high"), edited(t, c, m.p, least, "1.can=true 1.raise=a"))
			came[ok]++
		}
		enough(t, came, 6, true, false)
	}
}

// The same, of scripts made over schemas of any kind.
func TestMadeStandAlone(t *testing.T) {
	madeIn(t, 60000, 800, func(m *maker, x made) {
		second := modelOf(m.c, x)
		least := second.least()
		standsAlone(t, m.c, x.p, least, m.changed(x, second, least), m.oddProof())
	})
}
