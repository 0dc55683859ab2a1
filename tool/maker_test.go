package tool_test

import (
	"math/rand"
	"slices"
	"strings"

	"cordon/api"
	"cordon/flow"
	"cordon/schema"
	"cordon/script"
	"cordon/store"
	"cordon/token"
	"cordon/tool"
	"cordon/unparse"
	"cordon/value"
)

// lattices: of two levels, of levels that stand beside one another, and such where Bottom is not the first.
func lattices() []api.Schema {
	of := func(levels string, edges ...string) api.Schema {
		return api.Schema{Levels: strings.Fields(levels), Edges: numbered(len(edges), func(i int) api.Pair {
			two := strings.Fields(edges[i])
			return api.Pair{Low: two[0], High: two[1]}
		})}
	}
	return one(
		of("low high", "low high"), of("high low", "low high"), of("b c a d", "a b", "b c", "c d"),
		of("low a b high", "low a", "low b", "a high", "b high"), of("a high low b", "low a", "low b", "a high", "b high"),
		of("a b c high low", "low a", "low b", "low c", "a high", "b high", "c high"), of("top x y z o", "o x", "x y", "o z", "y top", "z top"),
	)
}

// maker makes schemas, rows of their tables, scripts over them that are right, and queries of principals. Each statement has a place of its own.
type maker struct {
	*rand.Rand
	s      api.Schema
	c      *schema.Catalog
	tables []api.Relation
	procs  []api.Proc
	ahead  int       // procedures that are seldom called where something is made, so that few go round
	vars   []api.Var // what is seen there
	count  int
}

// topChannel is one that is there in each schema, at Top.
const topChannel = "top_channel"

func pick[T any](m *maker, l ...T) T { return l[m.Intn(len(l))] }

func (m *maker) often(percent int) bool { return m.Intn(100) < percent }

// newMaker makes one, over one of some lattices.
func newMaker(seed int, of ...api.Schema) *maker {
	m := &maker{Rand: rand.New(rand.NewSource(int64(seed)))}
	m.schema(copied(pick(m, of...)))
	return m
}

// schema makes tables, channels and principals. Bottom comes more often than other levels, as it does not hide what else is in something.
func (m *maker) schema(s api.Schema) {
	of, _, _ := schema.New(s)
	level := func() string {
		if m.often(45) {
			return s.Levels[of.Lattice().Bottom()]
		}
		return pick(m, s.Levels...)
	}
	for _, i := range m.Perm(4)[:2+m.Intn(3)] {
		s.Tables = append(s.Tables, m.table(of, one("t", "u", "v", "w")[i], level))
	}
	for _, i := range m.Perm(3)[:1+m.Intn(3)] {
		s.Channels = append(s.Channels, api.Pair{Low: one("out", "log", "err")[i], High: level()})
	}
	s.Channels = slices.Insert(s.Channels, m.Intn(2), api.Pair{Low: topChannel, High: s.Levels[of.Lattice().Top()]})
	for _, i := range m.Perm(len(s.Levels)) {
		s.Principals = append(s.Principals, api.Pair{Low: "at_" + s.Levels[i], High: s.Levels[i]})
	}
	s.Limit = pick(m, 0, 3, 5, 8)
	c, _, err := schema.New(s)
	if err != api.OK {
		panic(err)
	}
	m.s, m.c, m.tables = s, c, c.Tables()
}

// kind is a type that variables and columns may have.
func (m *maker) kind() int { return pick(m, api.TyBool, api.TyInt, api.TyInt, api.TyInt, api.TyText) }

func (m *maker) table(of *schema.Catalog, name string, level func() string) api.Table {
	l, t := of.Lattice(), api.Table{Name: name, Rows: level()}
	at := func(name string) int {
		place, _ := l.Find(name)
		return place
	}
	var fit []api.Col // columns that may stand in a key, or a predicate
	for _, i := range m.Perm(4)[:1+m.Intn(4)] {
		c := api.Col{Name: one("a", "b", "c", "d")[i], Type: m.kind(), Null: m.often(60), Level: level()}
		if m.often(30) {
			c.Level = t.Rows
		}
		if l.Leq(at(c.Level), at(t.Rows)) {
			fit = append(fit, c)
		}
		t.Cols = append(t.Cols, c)
	}
	if len(fit) == 0 {
		return t
	}
	if m.often(40) {
		for _, i := range m.Perm(len(fit))[:1+m.Intn(min(2, len(fit)))] {
			t.Key = append(t.Key, fit[i].Name)
		}
	}
	if m.often(50) {
		t.Hide, t.When = l.Levels()[pick(m, l.Above(at(t.Rows))...)], one(m.predicate(pick(m, fit...)))
	}
	return t
}

// predicate makes one that is true of some of the values that a column may have.
func (m *maker) predicate(c api.Col) api.Expr {
	x := api.Expr{Kind: api.ExCol, S: c.Name}
	switch {
	case c.Null && m.often(30):
		return api.Expr{Kind: api.ExIs, N: m.Intn(2), Kids: one(x)}
	case c.Type == api.TyInt:
		return bin(pick(m, "<", ">="), x, number(1))
	case c.Type == api.TyText:
		return bin("=", x, api.Expr{Kind: api.ExText, S: "a"})
	}
	return x
}

// cell makes a value that fits a column.
func (m *maker) cell(f api.Field) api.Value {
	if f.Null && m.often(20) {
		return value.Null()
	}
	return one(value.Null(), value.Bool(m.often(50)), value.Int(m.Intn(6)-2), value.Text(pick(m, "", "a", "b")))[f.Type]
}

func (m *maker) row(t int) []api.Value {
	cols := m.tables[t].Cols
	return numbered(len(cols), func(i int) api.Value { return m.cell(cols[i]) })
}

// store makes one of so many rows a table at the most.
func (m *maker) store(most int) *store.DB {
	d := store.New(m.c)
	for t := range m.tables {
		for range m.Intn(most + 1) {
			d.Add(t, m.row(t))
		}
	}
	return d
}

func (m *maker) sees(at, level int) bool { return m.c.Lattice().Leq(level, at) }

// alike makes a store that is seen as another one at a level: all that is not seen of it may be otherwise.
func (m *maker) alike(d *store.DB, level int) *store.DB {
	out := m.store(4)
	for t, r := range m.tables {
		if m.sees(level, r.Rows) {
			if err := out.Put(t, m.alikeRows(d, t, level)); err != api.OK {
				panic(err)
			}
		}
	}
	return out
}

// alikeRows are a table's rows that are seen as another one's, with hidden rows at any places.
func (m *maker) alikeRows(d *store.DB, t, level int) [][]api.Value {
	r := m.tables[t]
	hidden := func(row []api.Value) bool { return d.Hidden(t, row) && !m.sees(level, r.Hide) }
	l := slices.DeleteFunc(d.Rows(t), hidden)
	for _, row := range l {
		for i, f := range r.Cols {
			if !m.sees(level, f.Level) && m.often(70) {
				row[i] = m.cell(f)
			}
		}
	}
	trial := store.New(m.c)
	for range m.Intn(6) {
		row := m.row(t)
		more := slices.Insert(slices.Clone(l), m.Intn(len(l)+1), row)
		if hidden(row) && trial.Put(t, more) == api.OK {
			l = more
		}
	}
	return l
}

func (m *maker) inputs() []int {
	return numbered(m.Intn(4), func(int) int { return m.Intn(6) - 1 })
}

// freed are statements of which those that stand at some places are not there any more, but prints, which tell to the channel that all may flow to.
func freed(l []api.Stmt, places []int) []api.Stmt {
	var out []api.Stmt
	for _, s := range l {
		switch is := slices.Contains(places, s.At); {
		case is && s.Kind == api.StPrint:
			s.Table = topChannel
		case is:
			continue
		}
		s.Body, s.Else = freed(s.Body, places), freed(s.Else, places)
		out = append(out, s)
	}
	return out
}

// freed is a script of which nothing may not flow; there is none now and then, as something is null where a type is asked for, or is too long.
func (m *maker) freed(s api.Script) (api.Script, bool) {
	for range 2 * (1 + m.count) { // each time a statement is gone, or a print told to Top
		p, _, err := script.Compile(m.c, s)
		if err != api.OK {
			return api.Script{}, false
		}
		v := flow.Check(m.c, p)
		if len(v.Diags) == 0 {
			return s, true
		}
		places := numbered(len(v.Diags), func(i int) int { return v.Diags[i].At })
		s.Body, s.Procs = freed(s.Body, places), slices.Clone(s.Procs)
		for i := range s.Procs {
			s.Procs[i].Body = freed(s.Procs[i].Body, places)
		}
	}
	panic("something may not flow at places where nothing stands")
}

// texts are a schema's and a script's, with an end of line; there are none now and then.
func (m *maker) texts(s api.Script) (string, string, bool) {
	of, err := unparse.Schema(m.s)
	if err != api.OK {
		panic(err)
	}
	text, err := unparse.Script(s)
	if _, _, wrong := script.Compile(m.c, s); wrong != api.OK {
		return "", "", false
	}
	return ended(of), ended(text), err == api.OK
}

// ended is a text whose last line has its end.
func ended(s string) string {
	if s == "" || strings.HasSuffix(s, "\n") {
		return s
	}
	return s + "\n"
}

// loads lays a store's rows into Loads, of some tables two, in any order of the tables.
func (m *maker) loads(d *store.DB) []api.Load {
	var out []api.Load
	for _, t := range m.Perm(len(m.tables)) {
		rows := d.Rows(t)
		if len(rows) == 0 && m.often(50) {
			continue
		}
		at := len(rows)
		if m.often(30) {
			at = m.Intn(len(rows) + 1)
		}
		out = append(out, load(m.tables[t].Name, rows[:at]...))
		if at < len(rows) || m.often(10) {
			out = append(out, load(m.tables[t].Name, rows[at:]...))
		}
	}
	return out
}

// asks makes queries of principals, some of which see all.
func (m *maker) asks(n int) []api.Ask {
	m.vars = nil
	return numbered(n, func(int) api.Ask {
		who := pick(m, m.s.Principals...)
		q := m.query(numbered(1+m.Intn(3), func(int) int { return m.kind() }), 1+m.Intn(3))
		s, err := unparse.Query(q)
		if err != api.OK {
			s = "select 1 as x"
		}
		return api.Ask{Who: who.Low, Query: s + "\n"}
	})
}

// toldJob is a job's text; "", if it is too long.
func toldJob(j api.Job) string {
	s, err := tool.Tell(j)
	if err == api.ErrMany {
		return ""
	}
	if err != api.OK {
		panic(err)
	}
	return s
}

// scattered is a text whose tokens have anything between them that may be passed over.
func (m *maker) scattered(text string) string {
	l, _, err := token.Scan(text)
	if err != api.OK {
		panic(err)
	}
	var out strings.Builder
	for i := range len(l) - 1 {
		if m.often(3) {
			out.WriteString(pick(m, "-- a remark\n", "--\n", "\t", "\r\n"))
		}
		out.WriteString(strings.TrimRight(text[l[i].At:l[i+1].At], " \n") + pick(m, " ", " ", " ", " ", "\n", "\n\n  ", "  "))
	}
	return out.String() + "\n"
}

// bent is a text of which one token is changed: most often it is another one of its kind that stands in the text, else it is gone, stands twice, or is anything.
func (m *maker) bent(text string) string {
	l, _, err := token.Scan(text)
	if err != api.OK || len(l) < 3 {
		return text
	}
	piece := func(i int) string { return text[l[i].At:l[i+1].At] }
	i, j := m.Intn(len(l)-1), m.Intn(len(l)-1)
	for l[j].Kind != l[i].Kind || token.Word(l[j].Text) != token.Word(l[i].Text) {
		j = m.Intn(len(l) - 1)
	}
	with := piece(j)
	if m.often(30) {
		with = pick(m, "", piece(i)+" "+piece(i), "x", "0", "'", "(", "$", "low", "null")
	}
	return ended(text[:l[i].At] + with + " " + text[l[i+1].At:])
}
