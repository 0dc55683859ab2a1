package change_test

import (
	"math"
	"testing"

	"cordon/api"
	"cordon/change"
	"cordon/store"
)

// P14.4.
func TestDelete(t *testing.T) {
	each(t,
		"delete from w", "3", "none",
		"delete from w where true", "3", "none",
		"delete from w where false", "0", "as",
		"delete from w where null", "0", "as",
		"delete from w where a = 3", "1", "(1 2 null) (5 1 6)",
		"delete from w where a <> 3", "2", "(3 0 4)",
		"delete from w where c > 0", "2", "(1 2 null)",
		"delete from w where not (c > 0)", "0", "as",
		"delete from w where a > :i", "0", "as",
		"delete from p where a = 0", "2", "(null 'y') (2 '')",
		"delete from p where a is null", "1", "(0 'x') (0 'x') (2 '')",
		"delete from e", "0", "none",
		"delete from e where 1 / 0 = 1", "0", "none",
		"delete from full where x % 2 = 0", "3", "(1 null) (3 null) (5 null)",
		// hidden rows are rows
		"delete from h", "4", "none",
		"delete from h where k = 1", "2", "(2 null null null) (3 true 'z' 30)",
		"delete from h where f", "2", "(1 false 'x' 10) (2 null null null)",
		"delete from h where not f", "1", "(1 true 'y' 0) (2 null null null) (3 true 'z' 30)",
		"delete from q where b > 5", "1", "(1 1) (3 null)",
		// queries see the table as it was ahead of the call
		"delete from w where a = (select max(a) as m from w)", "1", "(1 2 null) (3 0 4)",
		"delete from w where (select count(*) as n from w) = 3", "3", "none",
		"delete from w where exists (select a as a from w where a = 1)", "3", "none",
		"delete from w where a < (select max(a) as m from w)", "2", "(5 1 6)",
		"delete from q where a in (select a as a from q visible)", "2", "(2 6)",
		// the first error, row by row
		"delete from w where 10 / b > 0", "ErrZero", "as",
		"delete from w where 10 / (b - 1) > 0", "ErrZero", "as",
		"delete from w where case when a = 1 then true else 1 / 0 = 1 end", "ErrZero", "as",
		"delete from w where case when a = 5 then :most + 1 = 1 else case when a = 3 then 1 / 0 = 1 else true end end", "ErrZero", "as",
		"delete from w where case when a = 3 then :most + 1 = 1 else case when a = 5 then 1 / 0 = 1 else true end end", "ErrOver", "as",
		"delete from w where a = (select a as a from w)", "ErrSingle", "as",
	)
}

// What is gone is gone: its key is free, and there is room.
func TestDeleteInTurn(t *testing.T) {
	inTurn(t, ours(),
		"insert into full values (2, 7)", "ErrKey", "as",
		"delete from full where x = 2", "1", "(0 null) (1 null) (3 null) (4 null) (5 null)",
		"insert into full values (2, 7)", "0", "(0 null) (1 null) (3 null) (4 null) (5 null) (2 7)",
		"insert into full values (9, 7)", "ErrRows", "as",
		"delete from full where x / (x - 5) >= 0 or true", "ErrZero", "as",
		"insert into full values (9, 7)", "ErrRows", "as",
		"delete from full", "6", "none",
		"delete from full", "0", "none",
		"insert into full select a as x, b as y from q", "0", "(1 1) (2 6) (3 null)",
		"delete from h where k = 1 and f", "1", "(1 false 'x' 10) (2 null null null) (3 true 'z' 30)",
		"insert into h values (1, null, 'n', 1)", "ErrKey", "as",
		"insert into h values (1, true, 'n', 1)", "0", "(1 false 'x' 10) (2 null null null) (3 true 'z' 30) (1 true 'n' 1)",
	)
}

// every is a call of each kind that would be done on the table t, one that changes nothing, and ones that would be refused there for each reason.
func every(t *testing.T) []call {
	t.Helper()
	return []call{
		{kind: api.StDelete}, {kind: api.StUpdate}, {kind: api.StInsert}, {kind: api.StInsertQ},
		{kind: api.StInsert, nodes: one(constant(7), constant(7))}, {kind: api.StInsert, nodes: one(division())}, {kind: api.StInsert, nodes: one(api.Node{Kind: 99})},
		{kind: api.StInsertQ, plan: planOf(t, "select 7 as a, 7 as b")}, {kind: api.StInsertQ, plan: planOf(t, "select 1 / 0 as a")}, {kind: api.StInsertQ, plan: api.Plan{Kind: 99}}, {kind: api.StInsertQ, plan: api.Plan{Kind: api.PlScan, N: tableE}},
		{kind: api.StUpdate, cols: one(1), nodes: one(constant(7))}, {kind: api.StUpdate, cols: one(1), nodes: one(division())}, {kind: api.StUpdate, cols: one(1)}, {kind: api.StUpdate, cols: one(9), nodes: one(constant(7))}, {kind: api.StUpdate, cols: one(0), nodes: one(constant(7))},
		{kind: api.StUpdate, where: one(division())}, {kind: api.StDelete, where: one(division())}, {kind: api.StDelete, where: one(constant(false))},
	}
}

// P14.1: no store, whatever else is wrong.
func TestNoStore(t *testing.T) {
	for _, c := range every(t) {
		for _, table := range []int{0, -1, 99, math.MaxInt, math.MinInt} {
			c.table, c.vars = table, ourBound()
			for _, d := range []*store.DB{nil, {}, store.New(nil)} {
				check(t, c, answerOf(c.do(d)), "ErrNil")
			}
		}
	}
}

// P14.1: no such table, whatever else is wrong.
func TestNoTable(t *testing.T) {
	for _, c := range every(t) {
		for _, table := range []int{-1, beyond, beyond + 1, 99, math.MaxInt, math.MinInt} {
			c.table, c.vars = table, ourBound()
			check(t, c, watched(t, ours(), c), "ErrArg")
		}
		c.table = 0
		check(t, c, answerOf(c.do(store.New(catalogOf("levels low;")))), "ErrArg")
	}
	if change.Insert(ours(), nil, beyond-1, one(constant(1), constant(1), constant(1))) != api.OK {
		t.Error("the last table is none")
	}
}
