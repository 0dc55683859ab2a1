package app_test

import (
	"slices"
	"testing"

	"cordon/api"
	"cordon/app"
)

// kept is a copy of an answer.
func (a answer) kept() answer { return answer{a.tables.Copy(), slices.Clone(a.told), a.err} }

// wasted changes all that an answer holds.
func (a answer) wasted() {
	for i := range a.told {
		a.told[i] = api.Out{Channel: 99, Value: val("'wasted'")}
	}
	for i, rows := range rowsIn(a.tables) {
		spoil(&rows)
		a.tables.Put(i, nil)
	}
}

// Rules 3, 5 and 6, P2, of applications made in a loop: nothing that is handed in is changed, what comes out shares memory with nothing handed in, and no run hangs on another one.
func TestApart(t *testing.T) {
	came := map[string]int{}
	madeIn(t, 800000, 1500, func(m *maker, a made) {
		d, inputs, fuel := m.store(4), m.inputs(), pick(m, 15, 300)
		v, rows := a.Verdict(), rowsIn(d)
		first := answerOf(a.Run(rowsIn(d), inputs, fuel))
		was := first.kept()
		came[errNames[was.err]]++
		for _, handed := range []tablesOf{roomy(rows), emptied(rows), copied(rows)} {
			given := roomy(inputs)
			got := answerOf(a.Run(handed, given, fuel))
			check(t, "again", got.same(was), true)
			check(t, "what is handed in", same(handed, rows) && same(given, inputs) && hasRoom(given), true)
			spoil(&handed)
			spoil(&given)
			for i := range handed {
				handed[i] = nil
			}
			check(t, "when what was handed in is another thing", got.same(was), true)
			got.wasted()
		}
		a.Run(make(tablesOf, 99), inputs, fuel)               // refused
		a.Run(tablesOf{{{api.Value{Type: 9}}}}, inputs, fuel) // refused
		a.Run(rowsIn(m.store(4)), one(5, 4, 3, 2, 1), 20)     // on other tables
		a.Run(rowsIn(first.tables), inputs, fuel)             // on those that came out
		check(t, "another run", answerOf(a.Run(rows, inputs, fuel)).same(was), true)
		check(t, "the first run", first.same(was), true)
		check(t, "the verdict", same(a.Verdict(), v), true)
		check(t, "accepted", a.Accepted(), true)
	})
	enough(t, came, 10, "OK", "ErrRaise", "ErrFuel", "ErrRows", "ErrNull", "ErrKey", "ErrZero")
}

// Lists in what was handed in, and in what comes out, share no memory, nor do those of two runs.
func TestMemory(t *testing.T) {
	text := "var x int; update t set b = a; for x in select a as a from t { print out :x; } begin; insert into n values (9); rollback; insert into n values (8);"
	for _, script := range []string{"", "skip;", "print out 1;", text, text + "raise;", "begin; delete from t; rollback;"} {
		a := accepted(t, base, script)
		rows, inputs := tables("1 5; 2 null | 3; 4 | 1 2; -1 3 | 7"), one(1, 2)
		x, y := answerOf(a.Run(rows, inputs, 99)), answerOf(a.Run(rows, inputs, 99))
		own, other := rowsIn(x.tables), rowsIn(y.tables)
		check(t, script, ownMemory(x.told, y.told, rows, inputs) && ownMemory(own, other, rows), true)
		check(t, script, x.tables != y.tables && x.same(y), true)
		rows[0][0][0], rows[3] = val("77"), nil
		check(t, script, x.same(y) && same(rowsIn(x.tables), own), true)
	}
}

// A run twice of one application: neither what was told, nor tables, nor inputs, nor what was saved is left of the first one.
func TestTwice(t *testing.T) {
	for text, want := range map[string]string{
		"print out 1;": "1 OK [ |  |  | ]", "insert into n values (1);": "OK [ |  |  | 1]", "insert into t values (1, 2);": "OK [1 2 |  |  | ]", "var x int; input x; print out :x; set x = 5;": "4 OK [ |  |  | ]", "var x int; print out :x; set x = 5;": "null OK [ |  |  | ]",
		"insert into n values (1); begin;": "OK [ |  |  | 1]", "rollback; insert into n values (2); begin; insert into n values (3);": "OK [ |  |  | 2; 3]", "while true { skip; }": "ErrFuel [ |  |  | ]",
	} {
		a := accepted(t, base, text)
		for range 4 {
			check(t, text, answerOf(a.Run(nil, one(4), 50)).String(), want)
		}
	}
}

// Two applications of the same texts, and of other ones, are apart.
func TestTwoApplications(t *testing.T) {
	a, b := accepted(t, base, "insert into n values (1);"), accepted(t, base, "insert into n values (1);")
	c, _ := app.New(base, "print out (select max(b) as m from t);")
	check(t, "objects", a != b && a.Catalog() != b.Catalog(), true)
	first := answerOf(a.Run(nil, nil, 9))
	nothing(t, "not accepted", answerOf(c.Run(nil, nil, 9)), api.ErrFlow)
	check(t, "the other one", answerOf(b.Run(nil, nil, 9)).same(first), true)
	check(t, "the first one", a.Accepted() && b.Accepted() && !c.Accepted(), true)
	v := c.Verdict()
	bendVerdict(&v)
	check(t, "the first one", same(a.Verdict(), b.Verdict()), true)
	check(t, "a copy", func() bool { d := *a; return d.Accepted() && answerOf(d.Run(nil, nil, 9)).same(first) }(), true)
}
