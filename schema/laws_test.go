package schema_test

import (
	"math/rand"
	"reflect"
	"slices"
	"testing"

	"cordon/api"
	"cordon/schema"
)

// Each schema with one part changed: one too many, one too few, a field that its kind has not, another name, level, type or kind.
func TestOneChange(t *testing.T) {
	right, wrong := 0, 0
	for _, s := range []api.Schema{sample(), threefold(), queried(), read(t, example+"a = 1;")} {
		mutants(s, func(s api.Schema) {
			if holds(t, s, "one change") {
				right++
			} else {
				wrong++
			}
		})
	}
	if right < 3000 || wrong < 3000 {
		t.Errorf("%d are right and %d wrong: of one too few are tried", right, wrong)
	}
}

// Several changes at once.
func TestSeveralChanges(t *testing.T) {
	rnd := rand.New(rand.NewSource(81))
	all := []api.Schema{sample(), threefold(), queried()}
	for range 5000 {
		s := copied(all[rnd.Intn(len(all))])
		v := reflect.ValueOf(&s).Elem()
		for range 2 + rnd.Intn(3) {
			places := spots(v)
			at := places[rnd.Intn(len(places))]
			if c := changes(at); len(c) > 0 {
				at.Set(copyOf(c[rnd.Intn(len(c))]))
			}
		}
		holds(t, s, "several")
	}
}

// maker makes schemas at random, that are right for the most part.
type maker struct {
	rnd *rand.Rand
	s   api.Schema
}

func pick[T any](m *maker, l ...T) T { return l[m.rnd.Intn(len(l))] }

// slip is rare.
func (m *maker) slip() bool { return m.rnd.Intn(60) == 0 }

func (m *maker) level() string {
	if m.slip() {
		return pick(m, "", "nowhere", "t")
	}
	return pick(m, m.s.Levels...)
}

// names are as many names, all of them unlike but for a slip.
func (m *maker) names(n int) []string {
	out := []string{"t", "u", "id", "n", "low", "select", "é", "x"}
	m.rnd.Shuffle(len(out), func(i, j int) { out[i], out[j] = out[j], out[i] })
	out = out[:n]
	if n > 0 && m.slip() {
		out[m.rnd.Intn(n)] = pick(m, out[0], "")
	}
	return out
}

func (m *maker) lattice() {
	chain := []string{"low", "mid", "high"}
	switch m.rnd.Intn(4) {
	case 0:
		m.s = api.Schema{Levels: one("only")}
	case 1:
		m.s = api.Schema{Levels: chain, Edges: one(pair("mid", "high"), pair("low", "mid"), pair("low", "high"))}
	default:
		m.s = cornered()
	}
	m.rnd.Shuffle(len(m.s.Levels), func(i, j int) { m.s.Levels[i], m.s.Levels[j] = m.s.Levels[j], m.s.Levels[i] })
	if m.slip() {
		m.s.Edges = append(m.s.Edges, pair(m.level(), m.level()))
	}
}

func (m *maker) schema() api.Schema {
	m.lattice()
	for _, name := range m.names(m.rnd.Intn(4)) {
		m.s.Tables = append(m.s.Tables, m.table(name))
	}
	for _, name := range m.names(m.rnd.Intn(4)) {
		m.s.Channels = append(m.s.Channels, pair(name, m.level()))
	}
	for _, name := range m.names(m.rnd.Intn(4)) {
		m.s.Principals = append(m.s.Principals, pair(name, m.level()))
	}
	m.s.Limit = pick(m, 0, 1, 50, 100)
	if m.slip() {
		m.s.Limit = pick(m, -1, 101)
	}
	return m.s
}

func (m *maker) table(name string) api.Table {
	t := api.Table{Name: name, Rows: m.level()}
	for _, name := range m.names(1 + m.rnd.Intn(5)) {
		c := api.Col{Name: name, Type: pick(m, api.TyBool, api.TyInt, api.TyText), Null: pick(m, true, false), Level: m.level()}
		if m.slip() {
			c.Type = pick(m, 0, 4)
		}
		t.Cols = append(t.Cols, c)
	}
	low := m.low(t)
	for range m.rnd.Intn(3) {
		if c := pick(m, append(low, t.Cols[0])...).Name; m.slip() || !slices.Contains(t.Key, c) {
			t.Key = append(t.Key, c)
		}
	}
	if m.rnd.Intn(3) > 0 {
		t.Hide = pick(m, m.s.Levels[m.rnd.Intn(len(m.s.Levels))], t.Rows, t.Rows)
		t.When = one(m.predicate(t, low, pick(m, api.TyNull, api.TyBool), 1+m.rnd.Intn(5)))
	}
	return t
}

// low are the columns that stand below a table's rows, and now and then all others.
func (m *maker) low(t api.Table) []api.Col {
	if m.slip() {
		return t.Cols
	}
	judge := &model{s: m.s}
	return slices.DeleteFunc(slices.Clone(t.Cols), func(c api.Col) bool { return !judge.below(c.Level, t.Rows) })
}

// predicate makes one of a type, so deep at the most.
func (m *maker) predicate(t api.Table, low []api.Col, kind, deep int) api.Expr {
	if m.slip() {
		kind = m.rnd.Intn(4)
	}
	part := func(kind int) api.Expr { return m.predicate(t, low, kind, deep-1) }
	switch {
	case m.rnd.Intn(400) == 0:
		return pick(m, kinds()...)
	case deep <= 1:
		return m.small(t, low, kind)
	case kind != api.TyBool || m.rnd.Intn(5) == 0:
		return choice(part(pick(m, api.TyNull, api.TyBool)), part(kind), part(pick(m, kind, kind, api.TyNull)))
	}
	other := m.rnd.Intn(4)
	switch m.rnd.Intn(4) {
	case 0:
		return not(part(pick(m, api.TyNull, api.TyBool)))
	case 1:
		return is(m.rnd.Intn(2), part(other))
	case 2:
		return bin(part(pick(m, api.TyNull, api.TyBool)), pick(m, "or", "and"), part(pick(m, api.TyNull, api.TyBool)))
	}
	return bin(part(other), pick(m, "=", "<>", "<", "<=", ">", ">="), part(pick(m, other, api.TyNull)))
}

func (m *maker) small(t api.Table, low []api.Col, kind int) api.Expr {
	for _, c := range low {
		if c.Type == kind && m.rnd.Intn(2) == 0 {
			return pick(m, col(c.Name), colOf(t.Name, c.Name))
		}
	}
	return [4][]api.Expr{{null()}, {yes(), no()}, {num(0), num(-5)}, {text(""), text("it's")}}[kind][0]
}

// P8.1 and P8.2, of schemas made at random.
func TestMade(t *testing.T) {
	m := &maker{rnd: rand.New(rand.NewSource(8))}
	right, seen := 0, map[api.Errno]int{}
	for range 20000 {
		s := m.schema()
		kept := copied(s)
		if holds(t, s, "made") {
			right++
		}
		_, _, err := schema.New(s)
		seen[err]++
		if !same(s, kept) {
			t.Fatalf("what is handed in is changed: %+v", kept)
		}
	}
	if right < 5000 {
		t.Errorf("just %d are right", right)
	}
	for _, err := range []api.Errno{api.ErrMany, api.ErrName, api.ErrType, api.ErrFlow, api.ErrShape, api.ErrLevel} {
		if seen[err] < 50 {
			t.Errorf("%v is told %d times", err, seen[err])
		}
	}
}

// P8.3, of schemas made at random.
func TestMadeWithoutOne(t *testing.T) {
	m := &maker{rnd: rand.New(rand.NewSource(83))}
	for range 3000 {
		s := m.schema()
		if _, _, err := schema.New(s); err != api.OK {
			continue
		}
		for i := range s.Channels {
			holds(t, with(s, func(s *api.Schema) { s.Channels = slices.Delete(slices.Clone(s.Channels), i, i+1) }), "without a channel")
			accepted(t, "without a channel", with(s, func(s *api.Schema) { s.Channels = slices.Delete(slices.Clone(s.Channels), i, i+1) }))
		}
		for i := range s.Principals {
			accepted(t, "without a principal", with(s, func(s *api.Schema) { s.Principals = slices.Delete(slices.Clone(s.Principals), i, i+1) }))
		}
	}
}

// P1: whatever is handed in is answered, and so again, with lists that are empty in place of nil, too.
func TestAnything(t *testing.T) {
	rnd := rand.New(rand.NewSource(84))
	for range 20000 {
		var s api.Schema
		scribble(rnd, reflect.ValueOf(&s).Elem(), 4)
		if rnd.Intn(4) > 0 {
			s.Levels, s.Edges = one("a", "t"), one(pair("a", "t"))
			s.Limit = rnd.Intn(3)
		}
		holds(t, s, "anything")
		e := emptied(reflect.ValueOf(s)).Interface().(api.Schema)
		_, at, err := schema.New(s)
		if _, at2, err2 := schema.New(e); at2 != at || err2 != err {
			t.Errorf("%d %v with empty lists, %d %v with nil", at2, err2, at, err)
		}
	}
}

func scribble(rnd *rand.Rand, v reflect.Value, deep int) {
	switch v.Kind() {
	case reflect.Bool:
		v.SetBool(rnd.Intn(4) == 0)
	case reflect.Int:
		v.SetInt(int64(rnd.Intn(13) - 1))
	case reflect.String:
		v.SetString([]string{"", "a", "a", "t", "t", "or", "="}[rnd.Intn(7)])
	case reflect.Slice:
		if deep > 0 {
			v.Set(reflect.MakeSlice(v.Type(), []int{0, 0, 1, 1, 2}[rnd.Intn(5)], 2))
		}
		for i := range v.Len() {
			scribble(rnd, v.Index(i), deep-1)
		}
	case reflect.Struct:
		for i := range v.NumField() {
			scribble(rnd, v.Field(i), deep)
		}
	}
}

// emptied has empty lists in place of nil.
func emptied(v reflect.Value) reflect.Value {
	out := reflect.New(v.Type()).Elem()
	out.Set(v)
	switch v.Kind() {
	case reflect.Slice:
		out.Set(reflect.MakeSlice(v.Type(), v.Len(), v.Len()))
		for i := range v.Len() {
			out.Index(i).Set(emptied(v.Index(i)))
		}
	case reflect.Struct:
		for i := range v.NumField() {
			out.Field(i).Set(emptied(v.Field(i)))
		}
	}
	return out
}
