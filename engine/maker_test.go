package engine_test

import (
	"fmt"
	"math/rand"
	"slices"
	"strings"
	"sync"
	"testing"

	"cordon/api"
	"cordon/schema"
	"cordon/store"
)

// madeText is a schema over which queries are made. A column's name begins with a letter of its type; i1 stands in two tables.
const madeText = "levels low, high; order low < high;" +
	"table t rows low (i1 int low, b1 bool null low, s1 text null low) hide high when b1 or i1 = 1;" +
	"table u rows low (i1 int null low, s2 text low) hide high when u.s2 = 'a';" +
	"table v rows low (b2 bool low, b3 bool null low, i2 int low, i3 int null low);" +
	"table w rows low (s3 text null low) hide high when s3 is null;"

var madeCatalog = sync.OnceValue(func() *schema.Catalog { return catalogOf(madeText) })

const letters = "nbis" // by type

func pick[T any](rnd *rand.Rand, l ...T) T { return l[rnd.Intn(len(l))] }

// maker makes rows, and expressions and queries that have types.
type maker struct {
	*rand.Rand
	count   int
	total   bool // nothing that can raise something
	visible bool // just rows that are visible
	most    int  // rows of a table
}

func makerOf(seed int) *maker { return &maker{Rand: rand.New(rand.NewSource(int64(seed))), most: 6} }

func (m *maker) kind() int { return m.Intn(4) }

func (m *maker) kinds(most int) []int {
	return numbered(1+m.Intn(most), func(int) int { return m.kind() })
}

// near is a type, or null now and then.
func (m *maker) near(kind int) int { return pick(m.Rand, kind, kind, kind, kind, api.TyNull) }

func (m *maker) value(kind int) api.Value {
	return one(val(nil), val(m.Intn(2) == 0), val(pick(m.Rand, -1, 0, 1, 1, 2, 3)), val(pick(m.Rand, "", "a", "b", "ab")))[kind]
}

// vars are of each type, or null; of the second i, and of what no expression names, nothing is to be seen. Some are so great, or long, that what is reckoned with them is too much.
func (m *maker) vars() []api.Bound {
	b := func(name string, kind int) api.Bound {
		return api.Bound{Name: name, Value: m.value(pick(m.Rand, kind, kind, 0))}
	}
	out := one(b("n", api.TyNull), b("b", api.TyBool), b("i", api.TyInt), b("s", api.TyText), b("i", api.TyText), b("z", api.TyInt))
	if m.Intn(2) == 0 {
		out[2].Value, out[3].Value = val(pick(m.Rand, most, -most-1)), val(strings.Repeat("s", 501))
	}
	return out
}

func madeVars() []api.Var {
	return []api.Var{{Name: "n"}, {Name: "b", Type: api.TyBool}, {Name: "i", Type: api.TyInt}, {Name: "s", Type: api.TyText}, {Name: "i", Type: api.TyText}, {Name: "j", Type: api.TyInt}}
}

func (m *maker) row(r api.Relation) rowOf {
	return numbered(len(r.Cols), func(i int) api.Value {
		if r.Cols[i].Null && m.Intn(3) == 0 {
			return val(nil)
		}
		return m.value(r.Cols[i].Type)
	})
}

func (m *maker) tables() [][]rowOf {
	of := madeCatalog().Tables()
	return numbered(len(of), func(i int) []rowOf {
		return numbered(m.Intn(m.most+1), func(int) rowOf { return m.row(of[i]) })
	})
}

// both are a store of rows, and the second way over these.
func (m *maker) both() (*store.DB, model) {
	rows := m.tables()
	return loaded(madeCatalog(), rows...), model{
		tables: madeCatalog().Tables(), vars: m.vars(),
		rows: numbered(len(rows), func(i int) []lineOf { return lines(rows[i]) }),
	}
}

// env is where an expression is made: all places, those that may be named, and whether things may be gathered there.
type env struct {
	all, named []api.Place
	groups     bool
}

// madePlaces are columns of each type, for expressions that stand alone.
func madePlaces() []api.Place {
	return []api.Place{{T: "p", Name: "n", Type: api.TyNull}, {T: "p", Name: "b", Type: api.TyBool}, {T: "p", Name: "i", Type: api.TyInt}, {T: "p", Name: "s", Type: api.TyText}, {T: "q", Name: "i", Type: api.TyInt}}
}

func (m *maker) name(e env, p api.Place) api.Expr {
	alone := 0
	for _, o := range e.all {
		if o.Name == p.Name {
			alone++
		}
	}
	x := api.Expr{Kind: api.ExCol, S: p.Name, T: p.T}
	if alone == 1 && m.Intn(2) == 0 {
		x.T = ""
	}
	return x
}

func (m *maker) small(e env, kind int) api.Expr {
	found := slices.DeleteFunc(slices.Clone(e.named), func(p api.Place) bool { return p.Type != kind })
	switch {
	case len(found) > 0 && m.Intn(3) > 0:
		return m.name(e, pick(m.Rand, found...))
	case m.Intn(3) == 0:
		return api.Expr{Kind: api.ExVar, S: letters[kind:][:1]}
	case kind == api.TyInt && m.Intn(20) == 0:
		return api.Expr{Kind: api.ExVar, S: "j"}
	case kind == api.TyInt && m.Intn(10) == 0:
		return api.Expr{Kind: api.ExInt, N: 999999999999999999}
	}
	v := m.value(kind)
	return api.Expr{Kind: api.ExNull + kind, N: max(v.N, 0), S: v.S}
}

// expr makes one of a type, so deep at the most.
func (m *maker) expr(e env, kind, deep int) api.Expr {
	part := func(kind int) api.Expr { return m.expr(e, kind, deep-1) }
	switch {
	case deep <= 1:
		return m.small(e, kind)
	case e.groups && m.Intn(3) == 0:
		return m.gathered(e, kind, deep)
	case m.Intn(6) == 0:
		return api.Expr{Kind: api.ExCase, Kids: one(part(m.near(api.TyBool)), part(kind), part(m.near(kind)))}
	case m.Intn(8) == 0 && !m.total:
		return api.Expr{Kind: api.ExScalar, Q: one(m.query(one(kind), deep-1))}
	case kind == api.TyBool:
		return m.truth(part, deep)
	case m.total:
		return m.small(e, kind)
	case kind == api.TyInt && m.Intn(3) == 0:
		return api.Expr{Kind: api.ExNeg, Kids: one(part(m.near(kind)))}
	case kind == api.TyInt:
		return api.Expr{Kind: api.ExBin, S: pick(m.Rand, "+", "-", "*", "/", "%"), Kids: one(part(m.near(kind)), part(m.near(kind)))}
	case kind == api.TyText:
		return api.Expr{Kind: api.ExBin, S: "||", Kids: one(part(m.near(kind)), part(m.near(kind)))}
	}
	return m.small(e, kind)
}

func (m *maker) gathered(e env, kind, deep int) api.Expr {
	rows := env{all: e.all, named: e.all}
	x := api.Expr{Kind: api.ExAgg, S: pick(m.Rand, "min", "max")}
	if kind == api.TyInt {
		x.S = pick(m.Rand, "min", "max", "sum", "sum", "count")
	}
	switch {
	case x.S == "count" && m.Intn(2) == 0:
	case x.S == "count":
		x.Kids = one(m.expr(rows, m.kind(), deep-1))
	default:
		x.Kids = one(m.expr(rows, kind, deep-1))
	}
	return x
}

func (m *maker) truth(part func(kind int) api.Expr, deep int) api.Expr {
	other := m.kind()
	k := m.Intn(8)
	if m.total && (k == 4 || k == 5) {
		k = 6
	}
	switch k {
	case 0:
		return api.Expr{Kind: api.ExNot, Kids: one(part(m.near(api.TyBool)))}
	case 1:
		return api.Expr{Kind: api.ExIs, N: m.Intn(2), Kids: one(part(other))}
	case 2, 3:
		return api.Expr{Kind: api.ExBin, S: pick(m.Rand, "or", "and"), Kids: one(part(m.near(api.TyBool)), part(m.near(api.TyBool)))}
	case 4:
		return api.Expr{Kind: api.ExExists, Q: one(m.query(m.kinds(2), deep-1))}
	case 5:
		return api.Expr{Kind: api.ExIn, N: m.Intn(2), Kids: one(part(other)), Q: one(m.query(one(m.near(other)), deep-1))}
	}
	return api.Expr{Kind: api.ExBin, S: pick(m.Rand, "=", "<>", "<", "<=", ">", ">="), Kids: one(part(other), part(m.near(other)))}
}

// query makes one whose columns have these types, or are null.
func (m *maker) query(kinds []int, deep int) api.Query {
	names := numbered(len(kinds), func(i int) string {
		m.count++
		return fmt.Sprint(letters[kinds[i]:][:1], "q", m.count)
	})
	if deep <= 1 || m.Intn(5) > 0 {
		return m.selected(names, kinds, deep)
	}
	return api.Query{Kind: api.QuUnion + m.Intn(4), Limit: -1, Kids: one(m.query(kinds, deep-1), m.query(kinds, deep-1))}
}

func (m *maker) selected(names []string, kinds []int, deep int) api.Query {
	q := api.Query{Kind: api.QuSelect, Limit: pick(m.Rand, -1, -1, -1, -1, -1, -1, 0, 1, 1, 5), Distinct: m.Intn(4) == 0}
	var e env
	if m.Intn(8) > 0 {
		q.From = make([]api.From, 1)
		q.From[0], e.all = m.from(deep)
	}
	e.named = e.all
	if m.Intn(3) == 0 {
		q.Where = one(m.expr(e, m.near(api.TyBool), deep))
	}
	if m.Intn(3) == 0 {
		e.groups, e.named = true, nil
		for range m.Intn(4) {
			if len(e.all) > 0 {
				p := pick(m.Rand, e.all...)
				q.Group, e.named = append(q.Group, m.name(e, p)), append(e.named, p)
			}
		}
	}
	var cols env
	for i, kind := range kinds {
		x := m.expr(e, kind, deep)
		if e.groups && len(q.Group) == 0 && i == 0 { // so that it is grouped
			x = m.gathered(e, kind, deep)
		}
		q.Items = append(q.Items, api.Item{E: x, Name: names[i]})
		cols.all = append(cols.all, api.Place{Name: names[i], Type: kind})
	}
	cols.named = cols.all
	if len(q.Group) > 0 && m.Intn(2) == 0 {
		q.Having = one(m.expr(e, m.near(api.TyBool), deep))
	}
	for range max(0, m.Intn(5)-2) {
		q.Order = append(q.Order, api.Key{E: m.expr(cols, m.kind(), deep-1), Desc: m.Intn(2) == 0})
	}
	return q
}

// from makes what rows come from, and tells the places of these.
func (m *maker) from(deep int) (api.From, []api.Place) {
	f, places := m.single(deep)
	for range max(0, m.Intn(5)-2) {
		g, more := m.single(deep)
		places = slices.Concat(places, more)
		on := m.expr(env{all: places, named: places}, m.near(api.TyBool), min(deep, 2))
		f = api.From{Kind: pick(m.Rand, api.FrJoin, api.FrJoin, api.FrLeft), Kids: one(f, g), On: one(on)}
	}
	return f, places
}

func (m *maker) single(deep int) (api.From, []api.Place) {
	m.count++
	as := fmt.Sprint("f", m.count)
	if deep > 1 && m.Intn(3) == 0 {
		kinds := m.kinds(3)
		q := m.query(kinds, deep-1)
		head := q
		for head.Kind != api.QuSelect {
			head = head.Kids[0]
		}
		return api.From{Kind: api.FrQuery, As: as, Q: one(q)}, numbered(len(kinds), func(i int) api.Place {
			return api.Place{T: as, Name: head.Items[i].Name, Type: kinds[i]}
		})
	}
	of := pick(m.Rand, madeCatalog().Tables()...)
	f := api.From{Kind: api.FrTable, Table: of.Name, As: as, Visible: m.visible || m.Intn(3) == 0}
	return f, numbered(len(of.Cols), func(i int) api.Place { return api.Place{T: as, Name: of.Cols[i].Name, Type: of.Cols[i].Type} })
}

// enough looks whether each of some things came often enough.
func enough(t *testing.T, got map[string]int, least int, names ...string) {
	t.Helper()
	for _, name := range names {
		if got[name] < least {
			t.Errorf("%s came %d times, of %v", name, got[name], got)
		}
	}
}

// ending is an answer's kind: its error's name, rows, or none.
func ending(answer string) string {
	if strings.HasPrefix(answer, "(") {
		return "rows"
	}
	return answer
}
