package change_test

import (
	"slices"
	"testing"

	"cordon/api"
	"cordon/change"
	"cordon/engine"
	"cordon/store"
	"cordon/value"
)

// call is one of the calls that change a table, by the kind of its statement, with what it is handed.
type call struct {
	kind  int
	table int
	vars  []api.Bound
	cols  []int
	nodes []api.Node
	plan  api.Plan
	where []api.Node
}

func (c call) do(d *store.DB) (int, api.Errno) {
	switch c.kind {
	case api.StInsert:
		return 0, change.Insert(d, c.vars, c.table, c.nodes)
	case api.StInsertQ:
		return 0, change.InsertRows(d, c.vars, c.table, c.plan)
	case api.StUpdate:
		return change.Update(d, c.vars, c.table, c.cols, c.nodes, c.where)
	}
	return change.Delete(d, c.vars, c.table, c.where)
}

// tablesOf is all rows of all tables.
func tablesOf(d *store.DB) [][]rowOf {
	return numbered(len(d.Catalog().Tables()), func(i int) []rowOf { return d.Rows(i) })
}

func sameRows(a, b []rowOf) bool { return slices.EqualFunc(a, b, slices.Equal) }

// A second way: as the chapter's words stand, each row and each node by a call of its own, on a copy. What there is then is answered, too.
func (c call) secondWay(d *store.DB) (*store.DB, int, api.Errno) {
	if c.table < 0 || c.table >= len(d.Catalog().Tables()) {
		return d, 0, api.ErrArg
	}
	next := d.Copy()
	n, err := 0, api.OK
	switch c.kind {
	case api.StInsert:
		err = c.inserted(d, next)
	case api.StInsertQ:
		err = c.insertedRows(d, next)
	case api.StUpdate:
		n, err = c.updated(d, next)
	default:
		n, err = c.deleted(d, next)
	}
	if err != api.OK {
		return d, 0, err
	}
	return next, n, api.OK
}

func (c call) values(d *store.DB, r rowOf) (rowOf, api.Errno) {
	var out rowOf
	for _, n := range c.nodes {
		v, err := engine.Value(d, c.vars, r, n)
		if err != api.OK {
			return nil, err
		}
		out = append(out, v)
	}
	return out, api.OK
}

func (c call) inserted(d, next *store.DB) api.Errno {
	r, err := c.values(d, nil)
	if err != api.OK {
		return err
	}
	return next.Add(c.table, r)
}

func (c call) insertedRows(d, next *store.DB) api.Errno {
	l, err := engine.Rows(d, c.vars, c.plan)
	for i := 0; i < len(l) && err == api.OK; i++ {
		err = next.Add(c.table, l[i])
	}
	return err
}

// isMeant tells whether where is true of a row.
func (c call) isMeant(d *store.DB, r rowOf) (bool, api.Errno) {
	if len(c.where) == 0 {
		return true, api.OK
	}
	v, err := engine.Value(d, c.vars, r, c.where[0])
	return v == value.Bool(true), err
}

func (c call) updated(d, next *store.DB) (int, api.Errno) {
	if err := c.mayBe(d.Catalog().Tables()[c.table]); err != api.OK {
		return 0, err
	}
	n, l := 0, d.Rows(c.table)
	for _, r := range l {
		is, err := c.isMeant(d, slices.Clone(r))
		if err != api.OK {
			return 0, err
		}
		if !is {
			continue
		}
		n++
		values, err := c.values(d, slices.Clone(r))
		if err != api.OK {
			return 0, err
		}
		for i, v := range values {
			r[c.cols[i]] = v
		}
	}
	return n, next.Put(c.table, l)
}

// mayBe looks at an Update's columns.
func (c call) mayBe(r api.Relation) api.Errno {
	if len(c.nodes) != len(c.cols) {
		return api.ErrShape
	}
	often := map[int]int{}
	for _, col := range c.cols {
		if often[col]++; often[col] > 1 || col < 0 || col >= len(r.Cols) {
			return api.ErrArg
		}
	}
	if slices.ContainsFunc(c.cols, func(col int) bool { return isFixed(r, col) }) {
		return api.ErrShape
	}
	return api.OK
}

// isFixed asks each column for itself.
func isFixed(r api.Relation, col int) bool {
	var names func(x api.Expr) bool
	names = func(x api.Expr) bool {
		return x.Kind == api.ExCol && x.S == r.Cols[col].Name || slices.ContainsFunc(x.Kids, names)
	}
	return slices.Contains(r.Key, col) || slices.ContainsFunc(r.When, names)
}

func (c call) deleted(d, next *store.DB) (int, api.Errno) {
	n := 0
	var left []rowOf
	for _, r := range d.Rows(c.table) {
		is, err := c.isMeant(d, r)
		if err != api.OK {
			return 0, err
		}
		if is {
			n++
		} else {
			left = append(left, r)
		}
	}
	return n, next.Put(c.table, left)
}

// watched does a call, and looks at all that must hold of each: what is answered, and what is there then, is that of the second way, and of a copy; with an error nothing has changed; other tables never do; nothing handed in is changed, or kept; and P14.6, and of P14.7 that no row changes from hidden to visible.
func watched(t testing.TB, d *store.DB, c call) string {
	t.Helper()
	before, twin := d.Copy(), d.Copy()
	want, wantN, wantErr := c.secondWay(before)
	mine := roomy(c)
	was := copied(mine)
	n, err := mine.do(d)
	if !same(mine, was) {
		t.Error("what was handed in is changed")
	}
	spoil(mine)
	got := answerOf(n, err)
	check(t, "the second way", got, answerOf(wantN, wantErr))
	if !d.Same(want) {
		t.Errorf("the second way: %s, not %s", told(d.Rows(c.table)), told(want.Rows(c.table)))
	}
	check(t, "a copy", answerOf(c.do(twin)), got)
	if !d.Same(twin) {
		t.Error("a copy has other rows")
	}
	if err != api.OK && !d.Same(before) {
		t.Error("what is refused changes something")
	}
	for i, rows := range tablesOf(before) {
		if i != c.table && !sameRows(d.Rows(i), rows) {
			t.Errorf("another table is changed: %d", i)
		}
	}
	if err == api.OK {
		counts(t, before, d, c, n)
		staysHidden(t, before, d, c)
	}
	return got
}

// counts is P14.6.
func counts(t testing.TB, before, d *store.DB, c call, n int) {
	t.Helper()
	had, has := before.Rows(c.table), d.Rows(c.table)
	switch c.kind {
	case api.StInsert:
		if len(has) != len(had)+1 || !sameRows(has[:len(had)], had) {
			t.Errorf("an insert: %s, then %s", told(had), told(has))
		}
	case api.StInsertQ:
		if len(has) < len(had) || !sameRows(has[:len(had)], had) {
			t.Errorf("an insert of rows: %s, then %s", told(had), told(has))
		}
	case api.StDelete:
		if len(has) != len(had)-n {
			t.Errorf("%d rows less %d are %d", len(had), n, len(has))
		}
	case api.StUpdate:
		if len(has) != len(had) || n > len(had) {
			t.Fatalf("%d rows, of which %d are meant, are %d", len(had), n, len(has))
		}
		for i := range has {
			for _, place := range change.Fixed(d.Catalog().Tables()[c.table]) {
				if has[i][place] != had[i][place] {
					t.Errorf("the fixed column %d: %s, then %s", place, told(had), told(has))
				}
			}
		}
	}
}

// staysHidden is of P14.7: each row that an Update leaves is hidden if it was, and those that a Delete leaves are some of those that there were, in order, so they are hidden, too, if they were.
func staysHidden(t testing.TB, before, d *store.DB, c call) {
	t.Helper()
	had, has := before.Rows(c.table), d.Rows(c.table)
	switch c.kind {
	case api.StUpdate:
		for i := range has {
			if d.Hidden(c.table, has[i]) != before.Hidden(c.table, had[i]) {
				t.Errorf("row %d: %s, then %s", i, told(had), told(has))
			}
		}
	case api.StDelete:
		at := 0
		for _, r := range has {
			for at < len(had) && !slices.Equal(had[at], r) {
				at++
			}
			if at == len(had) {
				t.Fatalf("%s is none of %s", told(has), told(had))
			}
			at++
		}
	}
}
