package schema_test

import (
	"fmt"
	"slices"
	"strings"
	"testing"

	"cordon/api"
	"cordon/lattice"
	"cordon/schema"
)

// P8.1 and P8.2 a second way: all that is wrong with a schema is gathered, and what stands first in the chapter's order is told.

// wrong is something that is wrong, and where in that order it stands.
type wrong struct {
	order, at int
	err       api.Errno
}

const (
	ofLattice    = 0
	ofSizes      = 1
	ofTables     = 1000
	ofChannels   = 1000000
	ofPrincipals = 2000000
)

type model struct {
	s   api.Schema
	all []wrong
}

func (m *model) note(is bool, order, at int, err api.Errno) {
	if is {
		m.all = append(m.all, wrong{order, at, err})
	}
}

// judged is what New should answer.
func judged(s api.Schema) (int, api.Errno) {
	m := &model{s: s}
	_, err := lattice.New(s.Levels, s.Edges)
	m.note(err != api.OK, ofLattice, 0, err)
	most := max(len(s.Tables), len(s.Channels), len(s.Principals))
	m.note(most > api.MaxTables || s.Limit < 0 || s.Limit > api.MaxRows, ofSizes, 0, api.ErrMany)
	for i, t := range s.Tables {
		m.table(i, t)
	}
	m.names(ofChannels, s.Channels)
	m.names(ofPrincipals, s.Principals)
	if len(m.all) == 0 {
		return 0, api.OK
	}
	first := slices.MinFunc(m.all, func(a, b wrong) int { return a.order - b.order })
	return first.at, first.err
}

func (m *model) isLevel(name string) bool { return slices.Contains(m.s.Levels, name) }

// below follows edges, each level once.
func (m *model) below(low, high string) bool {
	reached := []string{low}
	for i := 0; i < len(reached); i++ {
		for _, e := range m.s.Edges {
			if e.Low == reached[i] && !slices.Contains(reached, e.High) {
				reached = append(reached, e.High)
			}
		}
	}
	return slices.Contains(reached, high)
}

func (m *model) names(order int, l []api.Pair) {
	for i, p := range l {
		ahead := slices.ContainsFunc(l[:i], func(q api.Pair) bool { return q.Low == p.Low })
		m.note(p.Low == "" || ahead || !m.isLevel(p.High), order+i, i+1, api.ErrName)
	}
}

func find(t api.Table, name string) (api.Col, bool) {
	i := slices.IndexFunc(t.Cols, func(c api.Col) bool { return c.Name == name })
	if i < 0 {
		return api.Col{}, false
	}
	return t.Cols[i], true
}

func (m *model) table(i int, t api.Table) {
	step := func(k int, is bool, err api.Errno) { m.note(is, ofTables*(i+1)+k, i+1, err) }
	step(1, len(t.Cols) == 0 || len(t.Cols) > api.MaxCols, api.ErrMany)
	step(2, t.Name == "" || slices.ContainsFunc(m.s.Tables[:i], func(o api.Table) bool { return o.Name == t.Name }), api.ErrName)
	step(4, !m.isLevel(t.Rows), api.ErrName)
	for j, c := range t.Cols {
		ahead := slices.ContainsFunc(t.Cols[:j], func(o api.Col) bool { return o.Name == c.Name })
		step(2, c.Name == "" || ahead, api.ErrName)
		step(3, c.Type < api.TyBool || c.Type > api.TyText, api.ErrType)
		step(4, !m.isLevel(c.Level), api.ErrName)
	}
	for j, name := range t.Key {
		c, ok := find(t, name)
		step(5, !ok || slices.Contains(t.Key[:j], name), api.ErrName)
		step(6, ok && !m.below(c.Level, t.Rows), api.ErrFlow)
	}
	if len(t.When) > 0 || t.Hide != "" {
		step(7, !m.isLevel(t.Hide), api.ErrName)
		step(8, !m.below(t.Rows, t.Hide), api.ErrFlow)
		step(9, len(t.When) != 1, api.ErrShape)
		for _, x := range t.When {
			step(9, !shaped(t, x) || depth(x) > api.MaxNest, api.ErrShape)
			k := typed(t, x)
			step(10, k != api.TyBool && k != api.TyNull, api.ErrType)
			for _, name := range columns(x) {
				c, _ := find(t, name)
				step(11, !m.below(c.Level, t.Rows), api.ErrFlow)
			}
		}
	}
}

// partOf is how many kids each kind that may stand in a predicate has.
var partOf = map[int]int{
	api.ExNull: 0, api.ExBool: 0, api.ExInt: 0, api.ExText: 0, api.ExCol: 0,
	api.ExNot: 1, api.ExIs: 1, api.ExBin: 2, api.ExCase: 3,
}

const (
	joining   = " or and "
	comparing = " = <> < <= > >= "
)

func isOne(words, s string) bool { return slices.Contains(strings.Fields(words), s) }

func shaped(t api.Table, x api.Expr) bool {
	n, ok := partOf[x.Kind]
	ok = ok && len(x.Kids) == n
	switch _, found := find(t, x.S); x.Kind {
	case api.ExBool:
		ok = ok && (x.N == 0 || x.N == 1)
	case api.ExText:
		ok = ok && len(x.S) < api.MaxText+1
	case api.ExCol:
		ok = ok && found && (x.T == "" || x.T == t.Name)
	case api.ExBin:
		ok = ok && isOne(joining+comparing, x.S)
	}
	for _, kid := range x.Kids {
		ok = ok && shaped(t, kid)
	}
	return ok
}

func depth(x api.Expr) int {
	deepest := 0
	for _, kid := range x.Kids {
		deepest = max(deepest, depth(kid))
	}
	return deepest + 1
}

func columns(x api.Expr) []string {
	var out []string
	if x.Kind == api.ExCol {
		out = append(out, x.S)
	}
	for _, kid := range x.Kids {
		out = append(out, columns(kid)...)
	}
	return out
}

// rules are the kids' types, and what that makes: null 0, bool 1, int 2, text 3.
var rules = map[string]string{
	"not":     "0>1 1>1",
	"is":      "0>1 1>1 2>1 3>1",
	"join":    "00>1 01>1 10>1 11>1",
	"compare": "00>1 01>1 02>1 03>1 10>1 20>1 30>1 11>1 22>1 33>1",
	"case": "000>0 001>1 002>2 003>3 010>1 020>2 030>3 011>1 022>2 033>3 " +
		"100>0 101>1 102>2 103>3 110>1 120>2 130>3 111>1 122>2 133>3",
}

// typed is a type, -1 if there is none.
func typed(t api.Table, x api.Expr) int {
	rule := ""
	switch x.Kind {
	case api.ExNull:
		return api.TyNull
	case api.ExBool:
		return api.TyBool
	case api.ExInt:
		return api.TyInt
	case api.ExText:
		return api.TyText
	case api.ExCol:
		c, _ := find(t, x.S)
		return c.Type
	case api.ExNot:
		rule = "not"
	case api.ExIs:
		rule = "is"
	case api.ExCase:
		rule = "case"
	case api.ExBin:
		rule = "compare"
		if isOne(joining, x.S) {
			rule = "join"
		}
	}
	kids := ""
	for _, kid := range x.Kids {
		kids += fmt.Sprint(typed(t, kid))
	}
	for _, r := range strings.Fields(rules[rule]) {
		if of, makes, _ := strings.Cut(r, ">"); of == kids {
			return int(makes[0] - '0')
		}
	}
	return -1
}

// lookedUp is what a catalog of a schema should tell.
func lookedUp(s api.Schema) told {
	level := func(name string) int { return slices.Index(s.Levels, name) }
	named := func(l []api.Pair) []api.Named {
		return numbered(len(l), func(i int) api.Named { return api.Named{Name: l[i].Low, Level: level(l[i].High)} })
	}
	out := told{s.Levels, nil, named(s.Channels), named(s.Principals), s.Limit}
	if s.Limit == 0 {
		out.Limit = api.MaxRows
	}
	for _, t := range s.Tables {
		r := api.Relation{Name: t.Name, Rows: level(t.Rows), Hide: level(t.Hide), When: t.When}
		for _, c := range t.Cols {
			r.Cols = append(r.Cols, api.Field{Name: c.Name, Type: c.Type, Null: c.Null, Level: level(c.Level)})
		}
		for _, name := range t.Key {
			r.Key = append(r.Key, slices.IndexFunc(t.Cols, func(c api.Col) bool { return c.Name == name }))
		}
		out.Tables = append(out.Tables, r)
	}
	return out
}

// holds holds New, and what is looked up, against the model, and tells whether there is a catalog.
func holds(t *testing.T, s api.Schema, why string) bool {
	t.Helper()
	wantAt, want := judged(s)
	c, at, err := schema.New(s)
	if at != wantAt || err != want || (c != nil) != (want == api.OK) {
		t.Errorf("%s: %v %d %v, want %d %v of %+v", why, c, at, err, wantAt, want, s)
		return false
	}
	if c == nil {
		return false
	}
	if got, want := tells(c), lookedUp(s); !same(got, want) {
		t.Errorf("%s: %+v\nwant %+v", why, got, want)
	}
	looks(t, c, s)
	return true
}

// looks asks for all names of a schema, and for some that may not be there.
func looks(t *testing.T, c *schema.Catalog, s api.Schema) {
	t.Helper()
	asked := []string{"", "t", "T", "low", "out", "nobody"}
	for _, x := range s.Tables {
		asked = append(asked, x.Name)
	}
	for _, p := range slices.Concat(s.Channels, s.Principals) {
		asked = append(asked, p.Low, p.High)
	}
	for _, name := range asked {
		place := slices.IndexFunc(s.Tables, func(x api.Table) bool { return x.Name == name })
		if got, ok := c.Table(name); got != max(place, 0) || ok != (place >= 0) {
			t.Errorf("Table(%q): %d %v, want %d", name, got, ok, place)
		}
		looksNamed(t, "Channel", name, c.Channel, s.Channels, s.Levels)
		looksNamed(t, "Principal", name, c.Principal, s.Principals, s.Levels)
	}
}

func looksNamed(t *testing.T, what, name string, ask func(name string) (int, bool), l []api.Pair, levels []string) {
	t.Helper()
	want, there := 0, false
	for _, p := range l {
		if p.Low == name {
			want, there = slices.Index(levels, p.High), true
		}
	}
	if got, ok := ask(name); got != want || ok != there {
		t.Errorf("%s(%q): %d %v, want %d %v", what, name, got, ok, want, there)
	}
}
