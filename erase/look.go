package erase

import (
	"slices"

	"cordon/api"
	"cordon/labels"
	"cordon/store"
)

// look is a store as it is looked at from a level.
type look struct {
	db   *store.DB
	sees func(level int) bool
}

func lookAt(d *store.DB, level int) look { return look{db: d, sees: sight(d.Catalog(), level)} }

func (l look) view(t int, r api.Relation) api.View {
	if !l.sees(r.Rows) {
		return api.View{}
	}
	out := api.View{Seen: true, Cols: l.columns(t, r), Rows: l.rows(t, r)}
	nulls := make([]api.Value, len(out.Cols))
	for _, row := range out.Rows {
		cover(row, nulls, out.Cols)
	}
	return out
}

// columns tells of each column of a table whether it is seen.
func (l look) columns(t int, r api.Relation) []bool {
	out := make([]bool, len(r.Cols))
	for i := range out {
		out[i] = l.sees(labels.Column(l.db.Catalog(), t, i))
	}
	return out
}

// rows are those of a table that are not hidden at the level.
func (l look) rows(t int, r api.Relation) [][]api.Value {
	if l.sees(r.Hide) {
		return l.db.Rows(t)
	}
	return l.db.Visible(t)
}

// cover lays values of another row over those that are not seen.
func cover(row, with []api.Value, seen []bool) {
	for i := range row {
		if !seen[i] {
			row[i] = with[i]
		}
	}
}

// mixed are a table's rows in a store that is seen as this one, and else is as another one. The columns of a key, and those in a predicate, are seen wherever rows are (8): so what is laid over the others hides no row, and makes none collide.
func (l look) mixed(o *store.DB, t int, r api.Relation) [][]api.Value {
	others := l.fitting(o, t)
	if !l.sees(r.Rows) {
		return others
	}
	out, seen := l.rows(t, r), l.columns(t, r)
	for i, row := range out {
		if len(others) > 0 {
			cover(row, others[i%len(others)], seen)
		}
	}
	if l.sees(r.Hide) {
		return out
	}
	return append(out, slices.DeleteFunc(others, func(row []api.Value) bool { return !l.db.Hidden(t, row) })...)
}

// fitting are another store's rows of a table, which all fit but where it is of another catalog.
func (l look) fitting(o *store.DB, t int) [][]api.Value {
	return slices.DeleteFunc(o.Rows(t), func(row []api.Value) bool { return l.db.Fits(t, row) != api.OK })
}
