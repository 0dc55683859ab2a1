package unparse

import (
	"strconv"

	"cordon/api"
)

// innerQuery writes a query that stands in something else.
func (w *writer) innerQuery(x api.Query) {
	w.deeper(func() { w.query(x) })
}

func (w *writer) queryInBrackets(x api.Query) {
	w.inBrackets(func() { w.innerQuery(x) })
}

// query writes the first of two without brackets, since queries are put together from the left: so each begins with select.
func (w *writer) query(x api.Query) {
	if x.Kind == api.QuSelect {
		w.selected(x)
		return
	}
	w.query(x.Kids[0])
	w.together(x.Kind)
	if second := x.Kids[1]; second.Kind == api.QuSelect {
		w.selected(second)
	} else {
		w.queryInBrackets(second)
	}
}

func (w *writer) together(kind int) {
	switch kind {
	case api.QuUnion:
		w.say("union")
	case api.QuUnionAll:
		w.say("union", "all")
	case api.QuExcept:
		w.say("except")
	case api.QuIntersect:
		w.say("intersect")
	}
}

func (w *writer) selected(x api.Query) {
	w.say("select")
	if x.Distinct {
		w.say("distinct")
	}
	list(w, x.Items, w.item)
	for _, f := range x.From {
		w.say("from")
		w.from(f)
	}
	w.behind(x.Where, "where")
	w.behind(x.Group, "group", "by")
	w.behind(x.Having, "having")
	if len(x.Order) > 0 {
		w.say("order", "by")
		list(w, x.Order, w.key)
	}
	if x.Limit != noLimit {
		w.say("limit", strconv.Itoa(x.Limit))
	}
}

// behind writes expressions with words ahead of them, if there are any.
func (w *writer) behind(l []api.Expr, words ...string) {
	if len(l) > 0 {
		w.say(words...)
		list(w, l, w.inner)
	}
}

func (w *writer) item(x api.Item) {
	w.inner(x.E)
	w.say("as", x.Name)
}

func (w *writer) key(x api.Key) {
	w.inner(x.E)
	if x.Desc {
		w.say("desc")
	}
}

func (w *writer) from(x api.From) {
	switch x.Kind {
	case api.FrTable:
		w.table(x)
	case api.FrQuery:
		w.queryInBrackets(x.Q[0])
		w.say("as", x.As)
	case api.FrJoin:
		w.join(x, "join")
	case api.FrLeft:
		w.join(x, "left", "join")
	}
}

func (w *writer) table(x api.From) {
	w.say(x.Table)
	if x.Visible {
		w.say("visible")
	}
	if x.As != x.Table {
		w.say("as", x.As)
	}
}

func (w *writer) join(x api.From, words ...string) {
	w.from(x.Kids[0])
	w.say(words...)
	w.from(x.Kids[1])
	w.behind(x.On, "on")
}
