package engine_test

import (
	"strings"
	"testing"

	"cordon/api"
	"cordon/engine"
	"cordon/store"
)

// The chapter's example.
func TestExample(t *testing.T) {
	c := catalogOf("levels low; table t rows low (a int low);")
	const text = "select a + 1 as x from t where a > 1"
	check(t, "1, 2", asks(t, loaded(c, one(row(1), row(2))), text), "(3)")
	check(t, "no rows", asks(t, store.New(c), text), "none")
	check(t, "others", asks(t, loaded(c, one(row(7), row(-1), row(7))), text), "(8) (8)")
}

// A table's rows as they stand; visible ones; without From one row without values.
func TestTables(t *testing.T) {
	answers(t,
		"select a as a, b as b, s as s from t", "(1 false 'x') (2 true 'y') (2 null null) (3 false 'x')",
		"select a as a, b as b, s as s from t visible", "(1 false 'x') (2 null null) (3 false 'x')",
		"select a as x from e", "none", "select a as x from e visible", "none", "select x as x from one visible", "(5)",
		"select 1 as x, 'y' as y", "(1 'y')", "select 1 as x where false", "none", "select 1 as x where null", "none", "select 1 as x where true", "(1)",
		"select a as x, 1 / a as y from t visible where a > 0", "(1 1) (2 0) (3 0)",
		"select x as x from (select a as x from t visible) as q", "(1) (2) (3)",
	)
	check(t, "PlOne", runs(api.Plan{Kind: api.PlOne}), "()")
	for i := range 7 {
		d := ours()
		check(t, i, runs(scan(i)), rowsTold(d.Rows(i)))
		check(t, i, runs(api.Plan{Kind: api.PlVisible, N: i, Width: scan(i).Width}), rowsTold(d.Visible(i)))
	}
}

// Where: rows of which it is true, not those of which it is false or null; an error at a late row is the query's.
func TestWhere(t *testing.T) {
	answers(t,
		"select c as x from u where a = 1", "(10) (30)", "select c as x from u where a <> 1", "(null) (40)", "select c as x from u where a is null", "(20)",
		"select c as x from u where true", "(10) (20) (null) (30) (40)", "select c as x from u where false", "none", "select c as x from u where null", "none",
		"select a as x from t where b", "(2)", "select a as x from t where not b", "(1) (3)",
		"select c as x from u where 1 / a = 1", "ErrZero", "select c as x from u where 1 / a = 1 or true", "ErrZero", "select a as x from e where 1 / 0 = 1", "none",
		"select 1 / 0 as x from u where false", "none", "select :most + 1 as x from u where 1 / a = 1", "ErrZero",
		"select c as x from u where case when a = 0 then 1 / 0 = 1 else false end", "ErrZero",
	)
}

// Items: row by row, and of each row from the left.
func TestItems(t *testing.T) {
	answers(t,
		"select a + 1 as x, s || '!' as y from t", "(2 'x!') (3 'y!') (3 null) (4 'x!')", "select a as x, a as y from t where a = 1", "(1 1)",
		"select 1 / 0 as x, :most + 1 as y from t", "ErrZero", "select :most + 1 as x, 1 / 0 as y from t", "ErrOver",
		"select case when a = 3 then 1 / 0 else 1 end as x, case when a = 1 then :most + 1 else 1 end as y from t", "ErrOver",
		"select case when a = 1 then 1 / 0 else 1 end as x, case when a = 1 then :most + 1 else 1 end as y from t", "ErrZero",
		"select 1 / (a - 3) as x from t", "ErrZero", "select 1 / 0 as x from e", "none",
		"select x as x from (select 1 / 0 as x from t) as q where :most + 1 = 1", "ErrZero",
	)
}

// Distinct: each row once, where it stands first; nulls are the same.
func TestDistinct(t *testing.T) {
	answers(t,
		"select distinct a as x from t", "(1) (2) (3)", "select distinct s as x from t", "('x') ('y') (null)", "select distinct a as x, s as y from t", "(1 'x') (2 'y') (2 null) (3 'x')",
		"select distinct null as x from t", "(null)", "select distinct a as x from e", "none", "select distinct 1 / (a - 3) as x from t", "ErrZero",
		"select distinct a % 2 as x from u", "(1) (null) (0)",
	)
}

// Order: by one key and more, either way; rows whose keys are the same stay as they stood; an error in a key.
func TestOrder(t *testing.T) {
	answers(t,
		"select a as x, c as y from u order by x", "(null 20) (0 40) (1 10) (1 30) (2 null)",
		"select a as x, c as y from u order by x desc", "(2 null) (1 10) (1 30) (0 40) (null 20)",
		"select a as x, c as y from u order by x, y desc", "(null 20) (0 40) (1 30) (1 10) (2 null)",
		"select a as x, c as y from u order by x desc, y", "(2 null) (1 10) (1 30) (0 40) (null 20)",
		"select a as x, c as y from u order by y", "(2 null) (1 10) (null 20) (1 30) (0 40)",
		"select a as x, c as y from u order by 1", "(1 10) (null 20) (2 null) (1 30) (0 40)",
		"select a as x, s as y from t order by y desc, -x", "(2 'y') (3 'x') (1 'x') (2 null)",
		"select b as x from t order by x", "(null) (false) (false) (true)",
		"select a as x from u order by 1 / x", "ErrZero", "select a as x from e order by 1 / 0", "none",
		"select a as x from u order by case when x = 0 then 1 / 0 else 1 end, :most + 1", "ErrOver",
		"select a as x from u order by 1 / 0, :most + 1", "ErrZero", "select a as x from u order by :most + 1, 1 / 0", "ErrOver",
		"select 1 / a as x from u order by :most + 1", "ErrZero",
		"select distinct a as x from t order by x desc", "(3) (2) (1)",
	)
}

// Limit: of 0, fewer and more rows than there are; what is behind is done all the same.
func TestLimit(t *testing.T) {
	answers(t,
		"select a as x from t limit 0", "none", "select a as x from t limit 1", "(1)", "select a as x from t limit 3", "(1) (2) (2)",
		"select a as x from t limit 4", "(1) (2) (2) (3)", "select a as x from t limit 5", "(1) (2) (2) (3)", "select a as x from t limit 999999999999999999", "(1) (2) (2) (3)",
		"select a as x from e limit 1", "none", "select a as x from t order by x desc limit 2", "(3) (2)", "select distinct a as x from t limit 2", "(1) (2)",
		"select 1 / (a - 3) as x from t limit 1", "ErrZero", "select 1 / 0 as x from t limit 0", "ErrZero",
		"select x as x from (select a as x from t limit 3) as q where x > 1 limit 1", "(2)",
	)
}

// Steps come one behind the other: an error of a step within is told ahead of one around it, at whatever row.
func TestStepsInOrder(t *testing.T) {
	bad := []string{"1 / (a - 3) = 5", ":most + a = 5"}
	for _, b := range []struct{ where, item, order, want string }{
		{bad[0], bad[1], "1", "ErrZero"}, {bad[1], bad[0], "1", "ErrOver"}, {"true", bad[0], ":most + 1", "ErrZero"}, {"true", bad[1], "1 / 0", "ErrOver"},
		{bad[0], bad[1], ":most + 1", "ErrZero"}, {"true", "true", "1 / 0", "ErrZero"},
	} {
		answers(t, "select distinct "+b.item+" as x from t where "+b.where+" order by "+b.order+" limit 0", b.want)
	}
	answers(t,
		"select a as x, sum(1 / (a - 3)) as y from t where :most + a = 0 group by a having 1 / 0 = 1", "ErrOver",
		"select a as x, sum(1 / (a - 3)) as y from t group by a having :most + a = 1", "ErrZero",
		"select a as x, 1 / (a - 1) as y from t group by a having :most + a = 1", "ErrOver",
		"select 1 / (a - 1) as y from t group by a having a > 1 order by :most + 1", "ErrOver",
		"select 1 / (a - 1) as y from t group by a order by :most + 1", "ErrZero",
	)
}

// Texts of MaxText bytes come through whole, and one more is ErrMany.
func TestLongTexts(t *testing.T) {
	half := strings.Repeat("h", api.MaxText/2)
	vars := one(api.Bound{Name: "long", Value: val(half)}, api.Bound{Name: "s", Value: val("1")})
	for text, want := range map[string]string{
		"select :long || :long as x": "('" + half + half + "')", "select :long || :long || :s as x": "ErrMany", "select :s || (:long || :long) as x": "ErrMany",
		"select :long || :long || '' as x": "('" + half + half + "')",
	} {
		check(t, text, rowsAnswer(engine.Rows(ours(), vars, planOf(t, ourCatalog(), text))), want)
	}
}
