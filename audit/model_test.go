package audit_test

import (
	"cordon/api"
	"cordon/labels"
)

// A second way: levels by their names and edges, hidden rows by what the maker of their predicate said.

// sees tells whether a level is seen at another one, which may be none.
func (w world) sees(at int, level string) bool {
	return at >= 0 && at < len(w.s.Levels) && reaches(w.s, level, w.s.Levels[at])
}

func (w world) hiddenAt(t int, row []api.Value, level int) bool {
	return w.hides[t](row) && !w.sees(level, w.s.Tables[t].Hide)
}

// own is the name of a principal's level; empty, if there is no such principal.
func (w world) own(who string) string {
	for _, p := range w.s.Principals {
		if p.Low == who {
			return p.High
		}
	}
	return ""
}

func (w world) reads(who string) []api.Grant {
	var out []api.Grant
	own := w.own(who)
	for _, t := range w.s.Tables {
		for _, col := range t.Cols {
			if own != "" && reaches(w.s, t.Rows, own) && reaches(w.s, col.Level, own) {
				out = append(out, api.Grant{Table: t.Name, Column: col.Name})
			}
		}
	}
	return out
}

func (w world) hears(who string) []string {
	var out []string
	own := w.own(who)
	for _, channel := range w.s.Channels {
		if own != "" && reaches(w.s, channel.High, own) {
			out = append(out, channel.Low)
		}
	}
	return out
}

func (w world) who(level int) []string {
	var out []string
	for _, p := range w.s.Principals {
		if level >= 0 && level < len(w.s.Levels) && reaches(w.s, w.s.Levels[level], p.High) {
			out = append(out, p.Low)
		}
	}
	return out
}

// may tells whether a principal may ask, and if not, the first part of the sheet that it does not see.
func (w world) may(who string, p api.Plan) (api.Errno, string) {
	own := w.own(who)
	if own == "" {
		return api.ErrName, "nobody"
	}
	hides := func(level int) bool { return !reaches(w.s, w.s.Levels[level], own) }
	s := labels.Plan(w.c, nil, p)
	rows, raise, cols := hides(s.Rows), s.Can && hides(s.Raise), 0
	for _, level := range s.Cols {
		if hides(level) {
			cols++
		}
	}
	switch {
	case rows && cols == 0 && !raise:
		return api.ErrFlow, "Rows alone"
	case !rows && cols == 1 && len(s.Cols) > 1 && !raise:
		return api.ErrFlow, "one of Cols alone"
	case !rows && cols == 0 && raise:
		return api.ErrFlow, "Raise alone"
	case rows || cols > 0 || raise:
		return api.ErrFlow, "several"
	}
	return api.OK, ""
}
