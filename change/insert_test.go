package change_test

import (
	"strings"
	"testing"

	"cordon/api"
)

// P14.2, Insert.
func TestInsert(t *testing.T) {
	each(t,
		"insert into t values (2, 6)", "0", "(1 5) (2 6)",
		"insert into t values (0, 5)", "0", "(1 5) (0 5)",
		"insert into e values (1, null)", "0", "(1 null)",
		"insert into p values (0, 'x')", "0", "(0 'x') (null 'y') (0 'x') (2 '') (0 'x')",
		"insert into p values (null, '')", "0", "(0 'x') (null 'y') (0 'x') (2 '') (null '')",
		"insert into q values (2, 6)", "0", "(1 1) (2 6) (3 null) (2 6)",
		"insert into t values (:i, :most)", "0", "(1 5) (7 9223372036854775807)",
		"insert into t values (2 + 3 * 4, case when :b then 1 else 1 / 0 end)", "0", "(1 5) (14 1)",
		"insert into p values (-:i, :s || 'w')", "0", "(0 'x') (null 'y') (0 'x') (2 '') (-7 'vw')",
		"insert into t values ((select count(*) as n from t) + 1, (select max(b) as m from t))", "0", "(1 5) (2 5)",
		"insert into t values (8, (select n as n from h where k = 3))", "0", "(1 5) (8 30)",
	)
}

// A row collides with those that are hidden, if it is, and else with those that are not.
func TestInsertCollides(t *testing.T) {
	const h = "(1 false 'x' 10) (1 true 'y' 0) (2 null null null) (3 true 'z' 30)"
	each(t,
		"insert into t values (1, 6)", "ErrKey", "as",
		"insert into t values (1, 5)", "ErrKey", "as",
		"insert into h values (1, true, null, null)", "ErrKey", "as",
		"insert into h values (1, null, null, null)", "ErrKey", "as",
		"insert into h values (2, false, null, null)", "ErrKey", "as",
		"insert into h values (3, true, null, null)", "ErrKey", "as",
		"insert into h values (2, true, null, null)", "0", h+" (2 true null null)",
		"insert into h values (3, null, null, null)", "0", h+" (3 null null null)",
		"insert into h values (4, true, 'w', 4)", "0", h+" (4 true 'w' 4)",
		"insert into full values (0, 1)", "ErrKey", "as",
	)
}

// Each error, and of several the one that comes first: nodes from the left, then whether the row fits, column by column, then whether it collides, then whether there is room.
func TestInsertRefused(t *testing.T) {
	each(t,
		"insert into t values (2)", "ErrShape", "as",
		"insert into t values (2, 3, 4)", "ErrShape", "as",
		"insert into t values (1, 2, 'x')", "ErrShape", "as",
		"insert into t values (2, 1 / 0)", "ErrZero", "as",
		"insert into t values (1 / 0, 2)", "ErrZero", "as",
		"insert into t values (1 / 0, :most + 1)", "ErrZero", "as",
		"insert into t values (:most + 1, 1 / 0)", "ErrOver", "as",
		"insert into t values (1 / 0)", "ErrZero", "as",
		"insert into t values (2, 3, 1 % 0)", "ErrZero", "as",
		"insert into t values ('x', null, 1 / 0)", "ErrZero", "as",
		"insert into t values ('x', 1 / 0)", "ErrZero", "as",
		"insert into t values (1, :most + 1)", "ErrOver", "as",
		"insert into t values ((select a as a from p), 1)", "ErrSingle", "as",
		"insert into p values (1, :long || :long)", "ErrMany", "as",
		"insert into t values ('x', 2)", "ErrType", "as",
		"insert into t values (2, true)", "ErrType", "as",
		"insert into t values (1, 'x')", "ErrType", "as",
		"insert into t values (null, 2)", "ErrNull", "as",
		"insert into t values (2, null)", "ErrNull", "as",
		"insert into t values (1, null)", "ErrNull", "as",
		"insert into t values (:none, 1)", "ErrNull", "as",
		"insert into t values ('x', null)", "ErrType", "as",
		"insert into t values (null, 'x')", "ErrNull", "as",
		"insert into full values (9, 1)", "ErrRows", "as",
		"insert into full values (5, 1)", "ErrKey", "as",
		"insert into full values (9, 'x')", "ErrType", "as",
		"insert into full values (null, 1)", "ErrNull", "as",
		"insert into full values (9)", "ErrShape", "as",
		"insert into full values (9, 1 / 0)", "ErrZero", "as",
	)
}

// There is no row: a column is null. Without nodes there are no values.
func TestInsertWithoutRow(t *testing.T) {
	for _, c := range []struct {
		table int
		nodes []api.Node
		want  string
	}{
		{tableE, one(constant(4), at(0)), "0"}, {tableE, one(at(0), constant(4)), "ErrNull"}, {tableE, nil, "ErrShape"}, {tableT, nil, "ErrShape"},
		{tableE, one(constant(4), node(api.ExCase, node(api.ExIs, at(1)), constant(5), division())), "0"},
	} {
		check(t, c, watched(t, ours(), call{kind: api.StInsert, table: c.table, nodes: c.nodes, vars: ourBound()}), c.want)
	}
}

// Values of variables that may not be are refused by Add.
func TestInsertWrongValues(t *testing.T) {
	for _, c := range []struct {
		v    api.Value
		want string
	}{
		{val(strings.Repeat("x", api.MaxText)), "0"}, {val(strings.Repeat("x", api.MaxText+1)), "ErrMany"}, {api.Value{Type: api.TyText, N: 1}, "ErrArg"}, {api.Value{Type: 9}, "ErrArg"}, {api.Value{Type: -1}, "ErrArg"}, {val(nil), "ErrNull"}, {val(1), "ErrType"},
	} {
		vars := one(api.Bound{Name: "v", Value: c.v})
		check(t, c.want, watched(t, ours(), call{kind: api.StInsert, table: tableP, vars: vars, nodes: one(constant(1), api.Node{Kind: api.ExVar, S: "v"})}), c.want)
		check(t, c.want, watched(t, ours(), call{kind: api.StUpdate, table: tableP, vars: vars, cols: one(1), nodes: one(api.Node{Kind: api.ExVar, S: "v"}), where: one(nodeOf(t, tableP, "a = 2"))}), strings.ReplaceAll(c.want, "0", "1"))
	}
}

// P14.2, InsertRows.
func TestInsertRows(t *testing.T) {
	const p = "(0 'x') (null 'y') (0 'x') (2 '')"
	each(t,
		"insert into t select x as a, x as b from e", "0", "as",
		"insert into e select x as x, y as y from e", "0", "none",
		"insert into t select a as a, b as b from q where false", "0", "as",
		"insert into e select 4 as x, 5 as y", "0", "(4 5)",
		"insert into e select a as x, b as y from q", "0", "(1 1) (2 6) (3 null)",
		"insert into e select a as x, b as y from q visible", "0", "(1 1) (3 null)",
		"insert into e select a as x, b as y from q order by x desc limit 2", "0", "(3 null) (2 6)",
		"insert into e select distinct a as x, null as y from p where not (a is null)", "0", "(0 null) (2 null)",
		"insert into e select :i as x, count(*) as y from w", "0", "(7 3)",
		"insert into p select a as a, b as b from p where a = 0", "0", p+" (0 'x') (0 'x')",
		// of the table itself: just the rows that were there
		"insert into t select a + 1 as a, b as b from t", "0", "(1 5) (2 5)",
		"insert into p select a as a, b as b from p limit 2", "0", p+" (0 'x') (null 'y')",
		"insert into w select a as a, (select count(*) as n from w) as b, c as c from w", "0", "(1 2 null) (3 0 4) (5 1 6) (1 3 null) (3 3 4) (5 3 6)",
		"insert into e select (select count(*) as n from e) + a as x, null as y from q", "0", "(1 null) (2 null) (3 null)",
		// hidden and not
		"insert into h select k as k, false as f, s as s, n as n from h where k = 3", "0", "(1 false 'x' 10) (1 true 'y' 0) (2 null null null) (3 true 'z' 30) (3 false 'z' 30)",
		"insert into q select a as a, 9 as b from q", "0", "(1 1) (2 6) (3 null) (1 9) (2 9) (3 9)",
	)
}

// What is wrong with a row is told as Add tells it, of the first row of which something is, and nothing has changed.
func TestInsertRowsRefused(t *testing.T) {
	each(t,
		// the plan
		"insert into t select 1 / a as a, 1 as b from p", "ErrZero", "as",
		"insert into t select 7 as a, 1 / (2 - a) as b from p", "ErrZero", "as",
		"insert into t select :most + a as a, 1 as b from q", "ErrOver", "as",
		"insert into t select (select a as a from p) as a, 1 as b", "ErrSingle", "as",
		"insert into t select full.x as a, 1 as b from full join full as g on true join full as i on true join full as j on true", "ErrRows", "as",
		"insert into t select 'x' as a, 1 / 0 as b", "ErrZero", "as",
		// a row that does not fit: the first, a later one
		"insert into t select 'x' as a, 1 as b", "ErrType", "as",
		"insert into t select null as a, 1 as b", "ErrNull", "as",
		"insert into t select 4 + a as a, 1 as b from p", "ErrNull", "as",
		"insert into e select a as x, case when a < 3 then 1 else 2 end as y from q union all select 9 as x, null as y union all select null as x, null as y", "ErrNull", "as",
		"insert into t select a as a from q", "ErrShape", "as",
		"insert into t select 8 as a, b as b, 1 as c from q", "ErrShape", "as",
		"insert into t select a as a from q where false", "0", "as",
		// a row that collides: with one that was there, with one ahead of it
		"insert into t select 1 as a, 1 as b", "ErrKey", "as",
		"insert into t select 3 - a as a, 1 as b from q where a < 3", "ErrKey", "as",
		"insert into e select 5 as x, b as y from q", "ErrKey", "as",
		"insert into e select a as x, 1 as y from p where not (a is null)", "ErrKey", "as",
		"insert into h select k as k, true as f, s as s, n as n from h where k > 1", "ErrKey", "as",
		"insert into h select k + 5 as k, f as f, s as s, n as n from h", "ErrRows", "as",
		// no room: at once, at a later row
		"insert into full select 9 as x, 1 as y", "ErrRows", "as",
		"insert into full select x as x, 1 as y from e", "0", "as",
		"insert into p select a as a, b as b from p", "ErrRows", "as",
		"insert into p select x as a, 'n' as b from full", "ErrRows", "as",
	)
}

// Of rows of which several are wrong the first is told, whatever is wrong with it: Put would tell otherwise.
func TestInsertRowsFirst(t *testing.T) {
	each(t,
		"insert into e select a as x, 1 as y from p where not (a is null) union all select null as x, 1 as y", "ErrKey", "as",
		"insert into e select null as x, 1 as y union all select a as x, 1 as y from p where not (a is null)", "ErrNull", "as",
		"insert into p select x as a, 'n' as b from full union all select 1 as a, null as b", "ErrRows", "as",
		"insert into p select 1 as a, null as b union all select x as a, 'n' as b from full", "ErrNull", "as",
		"insert into full select 9 as x, 1 as y union all select 0 as x, 1 as y", "ErrRows", "as",
		"insert into full select 0 as x, 1 as y union all select 9 as x, 1 as y", "ErrKey", "as",
		"insert into t select 1 as a, 1 as b union all select null as a, 1 as b", "ErrKey", "as",
		"insert into t select 2 as a, null as b union all select 1 as a, 1 as b", "ErrNull", "as",
		"insert into h select 9 as k, null as f, 'n' as s, 1 as n union all select 9 as k, false as f, 'n' as s, null as n union all select null as k, false as f, 'n' as s, null as n", "ErrKey", "as",
	)
}

// What was refused is gone: keys are free again, and there is as much room as there was.
func TestInsertRowsTakenBack(t *testing.T) {
	d := ours()
	for range 3 {
		inTurn(t, d,
			"insert into e select a as x, 1 as y from q union all select 2 as x, 2 as y", "ErrKey", "none",
			"insert into h select k + 7 as k, f as f, s as s, n as n from h", "ErrRows", "as",
			"insert into p select x as a, 'n' as b from full", "ErrRows", "as",
		)
	}
	inTurn(t, d,
		"insert into e values (1, 7)", "0", "(1 7)",
		"insert into e select a + 1 as x, 1 as y from q", "0", "(1 7) (2 1) (3 1) (4 1)",
		"insert into e select a + 3 as x, 1 as y from q", "ErrKey", "as",
		"insert into e select x + 4 as x, 1 as y from e", "ErrRows", "as",
		"insert into e select x + 4 as x, 1 as y from e limit 2", "0", "(1 7) (2 1) (3 1) (4 1) (5 1) (6 1)",
		"insert into h select k + 7 as k, true as f, s as s, n as n from h where k > 1", "0", "(1 false 'x' 10) (1 true 'y' 0) (2 null null null) (3 true 'z' 30) (9 true null null) (10 true 'z' 30)",
		"insert into p select 9 as a, 'n' as b from q limit 2", "0", "(0 'x') (null 'y') (0 'x') (2 '') (9 'n') (9 'n')",
	)
}
