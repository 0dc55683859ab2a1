package weigh_test

import (
	"fmt"
	"slices"

	"cordon/api"
	"cordon/schema"
	"cordon/store"
	"cordon/value"
)

const letters = "nbis" // by type

// world is a schema, made at random, with what is made over it.
type world struct {
	*maker
	tables []api.Table
	c      *schema.Catalog
	count  int
}

// worldOf makes one of a few tables. A column's name begins with a letter of its type.
func worldOf(seed int) *world {
	w := &world{maker: makerOf(seed)}
	for i := range 1 + w.Intn(4) {
		t := api.Table{Name: fmt.Sprint("t", i), Rows: "low"}
		for j := range 1 + w.Intn(4) {
			kind := 1 + w.Intn(3)
			t.Cols = append(t.Cols, api.Col{Name: fmt.Sprint(letters[kind:][:1], j), Type: kind, Null: w.Intn(2) == 0, Level: "low"})
		}
		if w.Intn(3) == 0 {
			t.Key = list(t.Cols[0].Name)
		}
		if w.Intn(2) == 0 {
			t.Hide, t.When = "high", list(w.predicate(t))
		}
		w.tables = append(w.tables, t)
	}
	c, at, err := schema.New(api.Schema{Levels: list("low", "high"), Edges: list(api.Pair{Low: "low", High: "high"}), Tables: w.tables, Limit: w.Intn(api.MaxRows) + 1})
	if err != api.OK {
		panic(fmt.Sprint(at, err))
	}
	w.c = c
	return w
}

// predicate is true of some rows of a table.
func (w *world) predicate(t api.Table) api.Expr {
	col := pick(w.Rand, t.Cols...)
	x := api.Expr{Kind: api.ExCol, S: col.Name}
	switch col.Type {
	case api.TyBool:
		return x
	case api.TyInt:
		return api.Expr{Kind: api.ExBin, S: "<", Kids: list(x, api.Expr{Kind: api.ExInt, N: 1})}
	}
	return api.Expr{Kind: api.ExBin, S: "=", Kids: list(x, api.Expr{Kind: api.ExText, S: "a"})}
}

func (w *world) value(kind int) api.Value {
	return list(value.Null(), value.Bool(w.Intn(2) == 0), value.Int(w.Intn(9)-2), value.Text(pick(w.Rand, "", "a", "b", "ab")))[kind]
}

// store makes rows for all tables, as many as fit.
func (w *world) store(most int) *store.DB {
	d := store.New(w.c)
	for i, t := range w.tables {
		for range w.Intn(most + 1) {
			d.Add(i, numbered(len(t.Cols), func(j int) api.Value {
				if t.Cols[j].Null && w.Intn(3) == 0 {
					return value.Null()
				}
				return w.value(t.Cols[j].Type)
			}))
		}
	}
	return d
}

// sizesOf are how many rows each table has.
func sizesOf(d *store.DB) []int {
	return numbered(len(d.Catalog().Tables()), func(i int) int { return len(d.Rows(i)) })
}

// env is where an expression is made: all places, those that may be named, and whether things may be gathered there.
type env struct {
	all, named []api.Place
	groups     bool
}

func (w *world) small(e env, kind int) api.Expr {
	found := slices.DeleteFunc(slices.Clone(e.named), func(p api.Place) bool { return p.Type != kind })
	if len(found) > 0 && w.Intn(4) > 0 {
		p := pick(w.Rand, found...)
		return api.Expr{Kind: api.ExCol, S: p.Name, T: p.T}
	}
	return list(api.Expr{Kind: api.ExNull}, api.Expr{Kind: api.ExBool, N: min(1, w.Intn(4))}, api.Expr{Kind: api.ExInt, N: w.Intn(4)}, api.Expr{Kind: api.ExText, S: pick(w.Rand, "", "a", "b")})[kind]
}

// expr makes one of a type, so deep at the most.
func (w *world) expr(e env, kind, deep int) api.Expr {
	part := func(kind int) api.Expr { return w.expr(e, kind, deep-1) }
	switch {
	case deep <= 1:
		return w.small(e, kind)
	case e.groups && w.Intn(3) == 0:
		return w.gathered(e, kind, deep)
	case w.Intn(6) == 0:
		return api.Expr{Kind: api.ExCase, Kids: list(part(api.TyBool), part(kind), part(kind))}
	case w.Intn(6) == 0:
		q := w.query(list(kind), deep-1)
		if q.Kind == api.QuSelect {
			q.Limit = 1 // so that few are too many
		}
		return api.Expr{Kind: api.ExScalar, Q: list(q)}
	case kind == api.TyBool:
		return w.truth(part, deep)
	case kind == api.TyInt && w.Intn(2) == 0:
		return api.Expr{Kind: api.ExBin, S: pick(w.Rand, "+", "-"), Kids: list(part(kind), part(kind))}
	}
	return w.small(e, kind)
}

func (w *world) gathered(e env, kind, deep int) api.Expr {
	x := api.Expr{Kind: api.ExAgg, S: pick(w.Rand, "min", "max")}
	if kind == api.TyInt && w.Intn(2) == 0 {
		x.S = "count"
	}
	if x.S != "count" || w.Intn(2) == 0 {
		x.Kids = list(w.expr(env{all: e.all, named: e.all}, kind, deep-1))
	}
	return x
}

func (w *world) truth(part func(kind int) api.Expr, deep int) api.Expr {
	other := w.Intn(4)
	switch w.Intn(7) {
	case 0:
		return api.Expr{Kind: api.ExIs, N: 1, Kids: list(part(other))}
	case 1:
		return api.Expr{Kind: api.ExBin, S: pick(w.Rand, "or", "or", "and"), Kids: list(part(api.TyBool), part(api.TyBool))}
	case 2:
		return api.Expr{Kind: api.ExExists, Q: list(w.query(list(other, 1), deep-1))}
	case 3:
		return api.Expr{Kind: api.ExIn, N: w.Intn(2), Kids: list(part(other)), Q: list(w.query(list(other), deep-1))}
	}
	return api.Expr{Kind: api.ExBin, S: pick(w.Rand, "=", "<>", "<="), Kids: list(part(other), part(other))}
}

// query makes one whose columns have these types.
func (w *world) query(kinds []int, deep int) api.Query {
	if deep > 1 && w.Intn(4) == 0 {
		return api.Query{Kind: api.QuUnion + w.Intn(4), Limit: -1, Kids: list(w.query(kinds, deep-1), w.query(kinds, deep-1))}
	}
	q := api.Query{Kind: api.QuSelect, Limit: pick(w.Rand, -1, -1, -1, -1, 0, 1, 3, 200), Distinct: w.Intn(4) == 0}
	var e env
	if w.Intn(6) > 0 {
		q.From = make([]api.From, 1)
		q.From[0], e.all = w.from(deep)
	}
	e.named = e.all
	if w.Intn(3) == 0 {
		q.Where = list(w.expr(e, api.TyBool, deep))
	}
	if w.Intn(3) == 0 {
		e.groups, e.named = true, nil
		for range w.Intn(3) {
			if len(e.all) > 0 {
				p := pick(w.Rand, e.all...)
				q.Group, e.named = append(q.Group, api.Expr{Kind: api.ExCol, S: p.Name, T: p.T}), append(e.named, p)
			}
		}
	}
	var cols env
	for i, kind := range kinds {
		x := w.expr(e, kind, deep)
		if e.groups && len(q.Group) == 0 && i == 0 { // so that it is grouped
			x = w.gathered(e, kind, deep)
		}
		w.count++
		q.Items = append(q.Items, api.Item{E: x, Name: fmt.Sprint(letters[kind:][:1], "q", w.count)})
		cols.all = append(cols.all, api.Place{Name: q.Items[i].Name, Type: kind})
	}
	cols.named = cols.all
	if len(q.Group) > 0 && w.Intn(3) == 0 {
		q.Having = list(w.expr(e, api.TyBool, deep))
	}
	for range max(0, w.Intn(4)-2) {
		q.Order = append(q.Order, api.Key{E: w.expr(cols, 1, deep-1), Desc: w.Intn(2) == 0})
	}
	return q
}

// from makes what rows come from, and tells the places of these.
func (w *world) from(deep int) (api.From, []api.Place) {
	f, places := w.source(deep)
	for range max(0, w.Intn(5)-2) {
		g, more := w.source(deep)
		places = slices.Concat(places, more)
		on := w.expr(env{all: places, named: places}, api.TyBool, min(deep, 2))
		f = api.From{Kind: pick(w.Rand, api.FrJoin, api.FrLeft), Kids: list(f, g), On: list(on)}
	}
	return f, places
}

func (w *world) source(deep int) (api.From, []api.Place) {
	w.count++
	as := fmt.Sprint("f", w.count)
	if deep > 1 && w.Intn(3) == 0 {
		q := w.query(list(1+w.Intn(3), 1), deep-1)
		head := q
		for head.Kind != api.QuSelect {
			head = head.Kids[0]
		}
		return api.From{Kind: api.FrQuery, As: as, Q: list(q)}, numbered(2, func(i int) api.Place {
			return api.Place{T: as, Name: head.Items[i].Name, Type: slices.Index([]byte(letters), head.Items[i].Name[0])}
		})
	}
	of := pick(w.Rand, w.tables...)
	f := api.From{Kind: api.FrTable, Table: of.Name, As: as, Visible: w.Intn(3) == 0}
	return f, numbered(len(of.Cols), func(i int) api.Place { return api.Place{T: as, Name: of.Cols[i].Name, Type: of.Cols[i].Type} })
}
