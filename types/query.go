package types

import (
	"slices"

	"cordon/api"
)

// columns are those of a query that is right (7), which sees nothing of what it stands in but variables.
func (l look) columns(q api.Query) ([]api.Place, api.Errno) {
	if q.Kind == api.QuSelect {
		return l.over(nil).selected(q)
	}
	first, err := l.columns(q.Kids[0])
	if err != api.OK {
		return nil, err
	}
	second, err := l.columns(q.Kids[1])
	if err != api.OK {
		return nil, err
	}
	return together(first, second)
}

// together are the columns of two queries that are put together.
func together(first, second []api.Place) ([]api.Place, api.Errno) {
	if len(first) != len(second) {
		return nil, api.ErrType
	}
	out := slices.Clone(first)
	for i, p := range second {
		kind, err := united(out[i].Type, p.Type)
		if err != api.OK {
			return nil, err
		}
		out[i].Type = kind
	}
	return out, api.OK
}

func (l look) selected(q api.Query) ([]api.Place, api.Errno) {
	rows, err := l.rows(q)
	if err != api.OK {
		return nil, err
	}
	cols, err := rows.told(q)
	if err != api.OK {
		return nil, err
	}
	for _, key := range q.Order {
		if _, err := l.over(cols).typeOf(key.E); err != api.OK {
			return nil, err
		}
	}
	return cols, api.OK
}

// rows is a look at what a query tells of: the rows of its From, or the groups of these. That Having stands with a Group alone is asked by layer 7.
func (l look) rows(q api.Query) (look, api.Errno) {
	for _, f := range q.From {
		places, err := l.from(f)
		if err != api.OK {
			return look{}, err
		}
		l = l.over(places)
	}
	if err := l.logical(q.Where); err != api.OK {
		return look{}, err
	}
	for _, x := range q.Group {
		if x.Kind != api.ExCol {
			return look{}, api.ErrShape
		}
		at, err := l.place(x)
		if err != api.OK {
			return look{}, err
		}
		l.group = append(l.group, at)
	}
	if isGrouped(q) {
		l.mode = ofGroups
	}
	return l, api.OK
}

// isGrouped need not look at Having, as that stands with a Group alone.
func isGrouped(q api.Query) bool {
	return len(q.Group) > 0 || slices.ContainsFunc(q.Items, func(i api.Item) bool { return gathers(i.E) })
}

// gathers tells whether there is an ExAgg in an expression; those in its queries are theirs.
func gathers(x api.Expr) bool {
	return x.Kind == api.ExAgg || slices.ContainsFunc(x.Kids, gathers)
}

// told are the columns of what a query tells; Having is looked at with them, as it sees what the items see.
func (l look) told(q api.Query) ([]api.Place, api.Errno) {
	if len(q.Items) > api.MaxCols {
		return nil, api.ErrMany
	}
	var cols []api.Place
	for _, item := range q.Items {
		kind, err := l.typeOf(item.E)
		if err != api.OK {
			return nil, err
		}
		cols = append(cols, api.Place{Name: item.Name, Type: kind})
	}
	if err := l.logical(q.Having); err != api.OK {
		return nil, err
	}
	return cols, api.OK
}

// logical asks that all of some expressions are.
func (l look) logical(list []api.Expr) api.Errno {
	for _, x := range list {
		kind, err := l.typeOf(x)
		if err != api.OK {
			return err
		}
		if _, err := all(api.TyBool, kind); err != api.OK {
			return err
		}
	}
	return api.OK
}
