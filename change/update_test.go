package change_test

import (
	"math"
	"slices"
	"testing"

	"cordon/api"
)

// The chapter's example.
func TestExample(t *testing.T) {
	inTurn(t, ours(),
		"update t set b = b + 1 where a = 1", "1", "(1 6)",
		"update t set a = 2", "ErrShape", "(1 6)",
	)
}

// P14.3: which rows are meant, and how many, also where their values stay.
func TestUpdate(t *testing.T) {
	each(t,
		"update w set a = 9", "3", "(9 2 null) (9 0 4) (9 1 6)",
		"update w set a = 9 where true", "3", "(9 2 null) (9 0 4) (9 1 6)",
		"update w set a = 9 where false", "0", "as",
		"update w set a = 9 where null", "0", "as",
		"update w set a = 9 where c > 4", "1", "(1 2 null) (3 0 4) (9 1 6)",
		"update w set a = 9 where not (c > 4)", "1", "(1 2 null) (9 0 4) (5 1 6)",
		"update w set a = 9 where c is null", "1", "(9 2 null) (3 0 4) (5 1 6)",
		"update w set a = a", "3", "as",
		"update w set c = 4 where a = 3", "1", "as",
		"update w set c = null", "3", "(1 2 null) (3 0 null) (5 1 null)",
		"update w set c = :i, a = :none where false", "0", "as",
		"update w set c = :i where :b", "3", "(1 2 7) (3 0 7) (5 1 7)",
		"update p set b = b || b where a = 0", "2", "(0 'xx') (null 'y') (0 'xx') (2 '')",
		"update p set a = 1, b = 'n'", "4", "(1 'n') (1 'n') (1 'n') (1 'n')",
		"update e set y = 1", "0", "none",
		"update e set y = 1 / 0 where 1 / 0 = 1", "0", "none",
		"update full set y = x where x > 3", "2", "(0 null) (1 null) (2 null) (3 null) (4 4) (5 5)",
		"update full set y = 1", "6", "(0 1) (1 1) (2 1) (3 1) (4 1) (5 1)",
		// hidden rows are rows
		"update h set n = 1", "4", "(1 false 'x' 1) (1 true 'y' 1) (2 null null 1) (3 true 'z' 1)",
		"update h set n = k, s = 's' where f", "2", "(1 false 'x' 10) (1 true 's' 1) (2 null null null) (3 true 's' 3)",
		"update q set a = a + 1 where b > 5", "1", "(1 1) (3 6) (3 null)",
	)
}

// Where of another type than true and false is not true.
func TestUpdateStrangeWhere(t *testing.T) {
	each(t,
		"update w set a = 9 where 1", "0", "as",
		"update w set a = 9 where 'true'", "0", "as",
		"update w set a = 9 where a", "0", "as",
		"update w set a = 9 where c", "0", "as",
		"update w set a = 1 / 0 where 1", "0", "as",
		"delete from w where 1", "0", "as",
		"delete from p where b", "0", "as",
	)
}

// Nodes see the row as it was, and queries the tables as they were ahead of the call.
func TestUpdateSeesOldRows(t *testing.T) {
	each(t,
		"update w set a = b, b = a", "3", "(2 1 null) (0 3 4) (1 5 6)",
		"update w set b = a, a = b", "3", "(2 1 null) (0 3 4) (1 5 6)",
		"update w set a = a + 1, b = a, c = a + b where a > 1", "2", "(1 2 null) (4 3 3) (6 5 6)",
		"update w set a = 0, c = a where a > 0", "3", "(0 2 1) (0 0 3) (0 1 5)",
		"update w set a = (select sum(a) as s from w)", "3", "(9 2 null) (9 0 4) (9 1 6)",
		"update w set a = a + (select max(a) as m from w) where a = (select min(a) as m from w)", "1", "(6 2 null) (3 0 4) (5 1 6)",
		"update w set a = 7 where not exists (select a as a from w where a = 7)", "3", "(7 2 null) (7 0 4) (7 1 6)",
		"update w set a = a + 2 where a + 2 in (select a as a from w)", "2", "(3 2 null) (5 0 4) (5 1 6)",
		"update h set n = (select count(*) as n from h), s = case when k in (select a as a from q visible) then 'in' else 'out' end", "4", "(1 false 'in' 4) (1 true 'in' 4) (2 null 'out' 4) (3 true 'in' 4)",
	)
}

// Row by row where, and then, if it is true, the nodes from the left: the first error; none of a row that is not meant.
func TestUpdateFirstError(t *testing.T) {
	each(t,
		"update w set a = 10 / b", "ErrZero", "as",
		"update w set a = 10 / b where b <> 0", "2", "(5 2 null) (3 0 4) (10 1 6)",
		"update w set a = 10 / b where b = 0", "ErrZero", "as",
		"update w set a = 1 / 0 where false", "0", "as",
		"update w set c = 1 where 10 / b > 0", "ErrZero", "as",
		"update w set c = 1 where 10 / (b - 1) > 0", "ErrZero", "as",
		"update w set a = 1 / 0, b = :most + 1", "ErrZero", "as",
		"update w set b = :most + 1, a = 1 / 0", "ErrOver", "as",
		// the first row's node ahead of the second row's where
		"update w set a = :most + b where 10 / b > 1", "ErrOver", "as",
		// the second row's where ahead of the third row's node
		"update w set a = :most + (2 - b) where 10 / b > 1", "ErrZero", "as",
		// the first row's second node ahead of the second row's first
		"update w set a = 10 / b, c = :most + a", "ErrOver", "as",
		// where ahead of the nodes
		"update w set a = 1 / 0 where :most + a > 0", "ErrOver", "as",
		// nodes ahead of whether their values fit
		"update w set a = null, b = 1 / (5 - a)", "ErrZero", "as",
		"update w set a = (select a as a from w)", "ErrSingle", "as",
		"update w set a = (select a as a from w) where a > 9", "0", "as",
		"update p set b = :long || :long", "ErrMany", "as",
	)
}

// Values that do not fit: Put's error, of the first row, column by column as they stand in the table.
func TestUpdateDoesNotFit(t *testing.T) {
	each(t,
		"update w set a = null", "ErrNull", "as",
		"update w set a = 'x'", "ErrType", "as",
		"update w set a = :none", "ErrNull", "as",
		"update w set a = c", "ErrNull", "as",
		"update w set a = c where a > 1", "2", "(1 2 null) (4 0 4) (6 1 6)",
		"update w set a = null where a = 5", "ErrNull", "as",
		"update w set a = null, b = 'x'", "ErrNull", "as",
		"update w set b = 'x', a = null", "ErrNull", "as",
		"update w set a = 'x', b = null", "ErrType", "as",
		"update w set a = case when a = 1 then 1 else null end, b = case when a = 3 then 1 else null end", "ErrNull", "as",
		"update w set c = true where a = 1", "ErrType", "as",
		"update h set s = 1 where f", "ErrType", "as",
		"update w set a = null where a > 5", "0", "as",
	)
}

// columns is an Update of the table w, or h, with such columns, and as many nodes, or others.
func columns(table int, nodes int, cols ...int) call {
	return call{kind: api.StUpdate, table: table, cols: cols, nodes: slices.Repeat(one(constant(1)), nodes), vars: ourBound()}
}

// P14.3: which columns may change, and of several errors the first, also where no row is meant, or where something would be raised.
func TestUpdateColumns(t *testing.T) {
	for _, c := range []struct {
		of   call
		want string
	}{
		{columns(tableW, 0), "OK"}, {columns(tableW, 1, 0), "OK"}, {columns(tableW, 3, 2, 0, 1), "OK"}, {columns(tableT, 1, 1), "OK"}, {columns(tableE, 1, 1), "OK"}, {columns(tableH, 0), "OK"}, {columns(tableH, 1, 3), "OK"},
		// not as many nodes
		{columns(tableW, 1), "ErrShape"}, {columns(tableW, 0, 1), "ErrShape"}, {columns(tableW, 1, 0, 1), "ErrShape"}, {columns(tableW, 3, 0, 1), "ErrShape"},
		// a column that is not there
		{columns(tableW, 1, -1), "ErrArg"}, {columns(tableW, 1, 3), "ErrArg"}, {columns(tableW, 2, 0, 3), "ErrArg"}, {columns(tableW, 1, math.MaxInt), "ErrArg"}, {columns(tableW, 1, math.MinInt), "ErrArg"}, {columns(tableE, 1, 2), "ErrArg"},
		// named twice
		{columns(tableW, 2, 0, 0), "ErrArg"}, {columns(tableW, 3, 0, 1, 0), "ErrArg"}, {columns(tableW, 4, 0, 1, 2, 1), "ErrArg"}, {columns(tableW, 2, 9, 9), "ErrArg"},
		// fixed: of the key, of the predicate, of both
		{columns(tableT, 1, 0), "ErrShape"}, {columns(tableT, 2, 1, 0), "ErrShape"}, {columns(tableE, 1, 0), "ErrShape"}, {columns(tableH, 1, 0), "ErrShape"}, {columns(tableH, 1, 1), "ErrShape"}, {columns(tableH, 3, 3, 2, 1), "ErrShape"}, {columns(tableQ, 1, 1), "ErrShape"},
		// several at once
		{columns(tableW, 1, -1, 5), "ErrShape"}, {columns(tableW, 1, 0, 0), "ErrShape"}, {columns(tableT, 2, 0), "ErrShape"}, {columns(tableT, 2, 0, 2), "ErrArg"}, {columns(tableT, 2, 2, 0), "ErrArg"}, {columns(tableT, 2, 0, 0), "ErrArg"},
		{columns(tableH, 4, 0, 1, 2, 2), "ErrArg"}, {columns(tableH, 2, 1, -1), "ErrArg"}, {columns(tableH, 5, 0, 1, 2, 3, 4), "ErrArg"},
	} {
		wheres := [][]api.Node{nil, one(constant(true)), one(constant(false)), one(constant(nil)), one(division())}
		for i, where := range wheres {
			for _, raises := range []bool{false, true} {
				of := c.of
				of.where = where
				if raises {
					of.nodes = slices.Repeat(one(tooGreat()), len(of.nodes))
				}
				want := c.want
				if rows := len(ours().Rows(of.table)); want == "OK" {
					want = wanted(rows, i, raises && len(of.nodes) > 0)
				}
				check(t, of, watched(t, ours(), of), want)
			}
		}
	}
}

// wanted is what is told of an Update that may be, of so many rows, by the place of its where, and by whether its nodes raise something.
func wanted(rows, where int, raises bool) string {
	switch {
	case rows == 0 || where == 2 || where == 3:
		return "0"
	case where == 4:
		return "ErrZero"
	case raises:
		return "ErrOver"
	}
	return answerOf(rows, api.OK)
}

// Without columns nothing changes, but rows are meant.
func TestUpdateNothing(t *testing.T) {
	for _, c := range []struct {
		where []api.Node
		want  string
	}{
		{nil, "4"}, {one(nodeOf(t, tableH, "f")), "2"}, {one(nodeOf(t, tableH, "n > 5")), "2"}, {one(nodeOf(t, tableH, "1 / n > 0")), "ErrZero"},
	} {
		d := ours()
		check(t, c.where, watched(t, d, call{kind: api.StUpdate, table: tableH, where: c.where}), c.want)
		if !d.Same(ours()) {
			t.Error("something changed")
		}
	}
}

// One update behind the other.
func TestUpdateInTurn(t *testing.T) {
	inTurn(t, ours(),
		"update w set a = a + 1", "3", "(2 2 null) (4 0 4) (6 1 6)",
		"update w set a = a + 1 where a > 3", "2", "(2 2 null) (5 0 4) (7 1 6)",
		"update w set a = 1 / (a - 7)", "ErrZero", "as",
		"update w set c = a where c is null", "1", "(2 2 2) (5 0 4) (7 1 6)",
		"update w set a = 0, b = 0, c = null", "3", "(0 0 null) (0 0 null) (0 0 null)",
		"delete from w where c is null", "3", "none",
		"update w set a = 1", "0", "none",
	)
}
