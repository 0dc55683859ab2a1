package store

import (
	"maps"
	"slices"

	"cordon/api"
	"cordon/code"
	"cordon/value"
)

// table is a table's rows, and where those stand that another one could collide with. What is known of it, and the places of its columns, never change: copies share them.
type table struct {
	known api.Relation
	cols  map[string]int
	rows  [][]api.Value
	taken map[spot]int
}

// spot is what two rows of a table with a key have in common just if they collide.
type spot struct {
	key    string
	hidden bool
}

func newTable(r api.Relation) table {
	cols := make(map[string]int, len(r.Cols))
	for place, col := range r.Cols {
		cols[col.Name] = place
	}
	return table{known: r, cols: cols, taken: map[spot]int{}}
}

// emptied is a table of the same kind without rows.
func (t *table) emptied() table {
	return table{known: t.known, cols: t.cols, taken: map[spot]int{}}
}

// copied is a table of the same kind with the same rows.
func (t *table) copied() table {
	out := t.emptied()
	out.rows = t.some(func([]api.Value) bool { return true })
	out.taken = maps.Clone(t.taken)
	return out
}

// some are the rows that may stay, cloned.
func (t *table) some(stays func(row []api.Value) bool) [][]api.Value {
	var out [][]api.Value
	for _, row := range t.rows {
		if stays(row) {
			out = append(out, slices.Clone(row))
		}
	}
	return out
}

func (t *table) fits(row []api.Value) api.Errno {
	if len(row) != len(t.known.Cols) {
		return api.ErrShape
	}
	for place, col := range t.known.Cols {
		if err := fitsColumn(col, row[place]); err != api.OK {
			return err
		}
	}
	return api.OK
}

func fitsColumn(col api.Field, v api.Value) api.Errno {
	err := value.Right(v)
	switch {
	case err != api.OK:
		return err
	case v == value.Null() && !col.Null:
		return api.ErrNull
	case v != value.Null() && v.Type != col.Type:
		return api.ErrType
	}
	return api.OK
}

// collides tells whether a row that fits collides with one that is there.
func (t *table) collides(row []api.Value) bool {
	_, there := t.taken[t.spotOf(row)]
	return there && len(t.known.Key) > 0
}

// add puts a row that fits, and collides with none, behind all.
func (t *table) add(row []api.Value) {
	t.taken[t.spotOf(row)] = len(t.rows)
	t.rows = append(t.rows, slices.Clone(row))
}

// spotOf is the spot of a row that fits: of such a row layer 2 tells no error.
func (t *table) spotOf(row []api.Value) spot {
	key, _ := code.Key(row, t.known.Key)
	return spot{key: key, hidden: t.hides(row)}
}

func sameRelation(a, b api.Relation) bool {
	return a.Name == b.Name && a.Rows == b.Rows && a.Hide == b.Hide &&
		slices.Equal(a.Cols, b.Cols) && slices.Equal(a.Key, b.Key) && slices.EqualFunc(a.When, b.When, sameExpr)
}

// sameExpr holds predicates against each other; no kind that may stand in one has queries.
func sameExpr(a, b api.Expr) bool {
	return a.Kind == b.Kind && a.N == b.N && a.S == b.S && a.T == b.T && slices.EqualFunc(a.Kids, b.Kids, sameExpr)
}
