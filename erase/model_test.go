package erase_test

import (
	"cordon/api"
	"cordon/store"
	"cordon/value"
)

// A second way: levels by their names and edges, hidden rows by what the maker of their predicate said, tables cell by cell.

// sees tells whether a level is seen at another one, which may be none.
func (w world) sees(at int, level string) bool {
	return at >= 0 && at < len(w.s.Levels) && reaches(w.s, level, w.s.Levels[at])
}

func (w world) hiddenAt(t int, row []api.Value, level int) bool {
	return w.hides[t](row) && !w.sees(level, w.s.Tables[t].Hide)
}

// veiled is a row of a table that is seen, as it is seen.
func (w world) veiled(t int, row []api.Value, level int) []api.Value {
	return numbered(len(row), func(i int) api.Value {
		if w.sees(level, w.s.Tables[t].Cols[i].Level) {
			return row[i]
		}
		return value.Null()
	})
}

// shown is what is seen of a store.
func (w world) shown(d *store.DB, level int) []api.View {
	return numbered(len(w.s.Tables), func(t int) api.View {
		of := w.s.Tables[t]
		v := api.View{Seen: w.sees(level, of.Rows)}
		if !v.Seen {
			return v
		}
		v.Cols = numbered(len(of.Cols), func(i int) bool { return w.sees(level, of.Cols[i].Level) })
		for _, row := range d.Rows(t) {
			if !w.hiddenAt(t, row, level) {
				v.Rows = append(v.Rows, w.veiled(t, row, level))
			}
		}
		return v
	})
}

// blended are the rows of a table that are seen as d's and else are as o's.
func (w world) blended(d, o *store.DB, t, level int) [][]api.Value {
	of, others := w.s.Tables[t], o.Rows(t)
	if !w.sees(level, of.Rows) {
		return others
	}
	var out [][]api.Value
	for _, row := range d.Rows(t) {
		if w.hiddenAt(t, row, level) {
			continue
		}
		from := row
		if len(others) > 0 {
			from = others[len(out)%len(others)]
		}
		out = append(out, numbered(len(row), func(i int) api.Value {
			if w.sees(level, of.Cols[i].Level) {
				return row[i]
			}
			return from[i]
		}))
	}
	limit := w.s.Limit
	if limit == 0 {
		limit = api.MaxRows
	}
	for _, row := range others {
		if w.hiddenAt(t, row, level) && len(out) < limit {
			out = append(out, row)
		}
	}
	return out
}

// fits tells whether a row may be a table's.
func (w world) fits(t int, row []api.Value) bool {
	cols := w.s.Tables[t].Cols
	for i, v := range row {
		if len(row) != len(cols) || value.Right(v) != api.OK || v.Type != cols[i].Type && (v != value.Null() || !cols[i].Null) {
			return false
		}
	}
	return len(row) == len(cols)
}

func (w world) collide(t int, a, b []api.Value) bool {
	of := w.s.Tables[t]
	for i, col := range of.Cols {
		for _, name := range of.Key {
			if col.Name == name && a[i] != b[i] {
				return false
			}
		}
	}
	return len(of.Key) > 0 && w.hides[t](a) == w.hides[t](b)
}
