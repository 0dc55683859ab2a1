package types

import (
	"slices"

	"cordon/api"
)

// from are the places of what rows come from.
func (l look) from(f api.From) ([]api.Place, api.Errno) {
	switch f.Kind {
	case api.FrTable:
		return l.table(f)
	case api.FrQuery:
		return l.query(f)
	}
	return l.join(f)
}

func (l look) table(f api.From) ([]api.Place, api.Errno) {
	at, ok := l.c.Table(f.Table)
	if !ok {
		return nil, api.ErrName
	}
	var places []api.Place
	for _, field := range l.tables[at].Cols {
		places = append(places, api.Place{T: f.As, Name: field.Name, Type: field.Type})
	}
	return places, api.OK
}

func (l look) query(f api.From) ([]api.Place, api.Errno) {
	cols, err := l.columns(f.Q[0])
	if err != api.OK {
		return nil, err
	}
	places := slices.Clone(cols)
	for i := range places {
		places[i].T = f.As
	}
	return places, api.OK
}

// join asks for names that are told apart by what stands second alone, since that is no join, so that all of its places have one T.
func (l look) join(f api.From) ([]api.Place, api.Errno) {
	first, err := l.from(f.Kids[0])
	if err != api.OK {
		return nil, err
	}
	second, err := l.from(f.Kids[1])
	if err != api.OK {
		return nil, err
	}
	if slices.ContainsFunc(first, func(p api.Place) bool { return p.T == f.Kids[1].As }) {
		return nil, api.ErrName
	}
	places := append(slices.Clone(first), second...)
	if len(places) > api.MaxCols {
		return nil, api.ErrMany
	}
	if err := l.over(places).logical(f.On); err != api.OK {
		return nil, err
	}
	return places, api.OK
}
