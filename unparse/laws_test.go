package unparse_test

import (
	"math/rand"
	"reflect"
	"strings"
	"testing"

	"cordon/api"
	"cordon/token"
)

// maker makes what is right, at random.
type maker struct {
	rnd  *rand.Rand
	left int // how much may still be made: with nothing left, what is made is short
}

func (m *maker) chance(n int) bool {
	m.left--
	return m.left > 0 && m.rnd.Intn(n) == 0
}

func pick[T any](m *maker, l ...T) T { return l[m.rnd.Intn(len(l))] }

// some is so many or more, one after the other.
func some[T any](m *maker, least int, make func() T) []T {
	var out []T
	for len(out) < least || m.chance(2) {
		out = append(out, make())
	}
	return out
}

func (m *maker) name() string {
	return pick(m, "a", "b", "t", "u", "count", "max", "_x9", "Select", strings.Repeat("n", api.MaxName))
}

func (m *maker) number() int {
	return pick(m, 0, 1, 7, 42, 1000000, most)
}

func (m *maker) text() string {
	var b strings.Builder
	for range m.rnd.Intn(4) {
		b.WriteString(pick(m, "'", "a", " ", "\n", "--", "é", "\xff", ",", "(", ";", "\x7f", "''"))
	}
	return b.String()
}

func (m *maker) expr() api.Expr {
	if !m.chance(2) {
		return m.small()
	}
	switch m.rnd.Intn(10) {
	case 0:
		return neg(m.expr())
	case 1:
		return not(m.expr())
	case 2:
		return is(m.rnd.Intn(2), m.expr())
	case 3:
		return choice(m.expr(), m.expr(), m.expr())
	case 4:
		return exists(m.query())
	case 5:
		return in(m.rnd.Intn(2), m.expr(), m.query())
	case 6:
		return scalar(m.query())
	case 7:
		return agg(pick(m, "count", "sum", "min", "max"), m.expr())
	}
	mark := pick(m, "or", "and", "=", "<>", "<", "<=", ">", ">=", "+", "-", "||", "*", "/", "%")
	return bin(m.expr(), mark, m.expr())
}

func (m *maker) small() api.Expr {
	switch m.rnd.Intn(8) {
	case 0:
		return null()
	case 1:
		return api.Expr{Kind: api.ExBool, N: m.rnd.Intn(2)}
	case 2:
		return num(m.number())
	case 3:
		return text(m.text())
	case 4:
		return variable(m.name())
	case 5:
		return agg("count")
	case 6:
		return colOf(m.name(), m.name())
	}
	return col(m.name())
}

func (m *maker) perhaps() []api.Expr {
	if m.chance(3) {
		return one(m.expr())
	}
	return nil
}

func (m *maker) query() api.Query {
	if m.chance(3) {
		return put(pick(m, api.QuUnion, api.QuUnionAll, api.QuExcept, api.QuIntersect), m.query(), m.query())
	}
	q := api.Query{Kind: api.QuSelect, Distinct: m.chance(3), Limit: pick(m, -1, m.number()), Where: m.perhaps()}
	q.Items = some(m, 1, func() api.Item { return item(m.expr(), m.name()) })
	if m.chance(2) {
		q.From = one(m.from())
	}
	if m.chance(3) {
		q.Group, q.Having = some(m, 1, m.expr), m.perhaps()
	}
	q.Order = some(m, 0, func() api.Key { return api.Key{E: m.expr(), Desc: m.chance(2)} })
	return q
}

func (m *maker) from() api.From {
	if m.chance(3) {
		return join(pick(m, api.FrJoin, api.FrLeft), m.from(), m.alone(), m.expr())
	}
	return m.alone()
}

func (m *maker) alone() api.From {
	if m.chance(4) {
		return fromQuery(m.query(), m.name())
	}
	name := m.name()
	return api.From{Kind: api.FrTable, Table: name, Visible: m.chance(3), As: pick(m, name, name, m.name())}
}

func (m *maker) variable() api.Var {
	return api.Var{Name: m.name(), Type: pick(m, api.TyBool, api.TyInt, api.TyText)}
}

func (m *maker) script() api.Script {
	return api.Script{Vars: some(m, 0, m.variable), Procs: some(m, 0, func() api.Proc {
		return api.Proc{Name: m.name(), Params: some(m, 0, m.variable), Vars: some(m, 0, m.variable), Body: m.stmts()}
	}), Body: m.stmts()}
}

func (m *maker) stmts() []api.Stmt { return some(m, m.rnd.Intn(2), m.stmt) }

func (m *maker) stmt() api.Stmt {
	s := api.Stmt{Kind: 1 + m.rnd.Intn(api.StInput), At: m.rnd.Intn(100) - 50}
	switch s.Kind {
	case api.StSet:
		s.Names, s.E = one(m.name()), one(m.expr())
	case api.StIf:
		s.E, s.Body, s.Else = one(m.expr()), m.stmts(), m.stmts()
	case api.StWhile:
		s.E, s.Body = one(m.expr()), m.stmts()
	case api.StFor:
		s.Names, s.Q, s.Body = some(m, 1, m.name), one(m.query()), m.stmts()
	case api.StPrint:
		s.Table, s.E = m.name(), one(m.expr())
	case api.StInsert:
		s.Table, s.E = m.name(), some(m, 1, m.expr)
	case api.StInsertQ:
		s.Table, s.Q = m.name(), one(m.query())
	case api.StUpdate:
		s.Table, s.Names, s.Where = m.name(), some(m, 1, m.name), m.perhaps()
		for range s.Names {
			s.E = append(s.E, m.expr())
		}
	case api.StDelete:
		s.Table, s.Where = m.name(), m.perhaps()
	case api.StTry:
		s.Body, s.Else = m.stmts(), m.stmts()
	case api.StCall:
		s.Table, s.E = m.name(), some(m, 0, m.expr)
	case api.StInput:
		s.Names = one(m.name())
	}
	return s
}

func (m *maker) pair() api.Pair { return api.Pair{Low: m.name(), High: m.name()} }

func (m *maker) schema() api.Schema {
	return api.Schema{Levels: some(m, 0, m.name), Edges: some(m, 0, m.pair), Tables: some(m, 0, m.table), Channels: some(m, 0, m.pair), Principals: some(m, 0, m.pair), Limit: m.number()}
}

func (m *maker) table() api.Table {
	t := api.Table{Name: m.name(), Rows: m.name(), Key: some(m, 0, m.name), Cols: some(m, 1, func() api.Col {
		return api.Col{Name: m.name(), Type: pick(m, api.TyBool, api.TyInt, api.TyText), Null: m.chance(2), Level: m.name()}
	})}
	if m.chance(2) {
		t.Hide, t.When = m.name(), one(m.expr())
	}
	return t
}

// made is one of each of the four.
func made(rnd *rand.Rand) []any {
	m := func() *maker { return &maker{rnd: rnd, left: 1 + rnd.Intn(80)} }
	return []any{m().expr(), m().query(), m().script(), m().schema()}
}

// P7.1 and P7.2: what is made is written as the model does, and read as it is, unless it is too deep.
func TestMade(t *testing.T) {
	rnd := rand.New(rand.NewSource(7))
	for range 4000 {
		for _, x := range made(rnd) {
			f := faceFor(x)
			s := f.model(x)
			if _, _, err := f.read(s); err == api.ErrDeep {
				refuses(t, x, api.ErrDeep)
				continue
			}
			writes(t, x, s)
		}
	}
}

// loosened is a text with the same tokens, laid otherwise, and with brackets around some names, numbers and texts that need none.
func loosened(t *testing.T, rnd *rand.Rand, s string) string {
	tokens, at, err := token.Scan(s)
	if err != api.OK {
		t.Fatalf("%q: %d %v", short(s), at, err)
	}
	gaps := []string{" ", " ", "  ", "\n", "\t", "\r\n", " -- it's ) a remark\n"}
	var b strings.Builder
	for i, k := range tokens[:len(tokens)-1] {
		b.WriteString(gaps[rnd.Intn(len(gaps))])
		piece := s[k.At:tokens[i+1].At]
		if k.Kind == api.TkText {
			piece = strings.TrimRight(piece, " \n")
		} else {
			piece = k.Text
		}
		prim := k.Kind == api.TkText || k.Kind == api.TkInt && i > 0 && tokens[i-1].Text != "limit" || k.Text == "true"
		if prim && rnd.Intn(3) == 0 {
			piece = "(" + piece + " )"
		}
		b.WriteString(piece)
	}
	return b.String() + "\n"
}

// P7.3: what is read is written so again, and that is what is written of it.
func again(t *testing.T, f face, x any) {
	t.Helper()
	s, err := f.write(x)
	if err != api.OK {
		if err != api.ErrDeep || s != "" {
			t.Errorf("%s: what is read is written as %q, with %v", f.name, short(s), err)
		}
		return
	}
	y, at, err := f.read(s)
	if err != api.OK || !same(x, y) {
		t.Errorf("%s %q is read otherwise: %d %v", f.name, short(s), at, err)
	}
	if s2, err := f.write(y); s2 != s || err != api.OK {
		t.Errorf("%s %q is written otherwise again: %q %v", f.name, short(s), short(s2), err)
	}
}

func TestReadAndWritten(t *testing.T) {
	rnd := rand.New(rand.NewSource(73))
	for range 3000 {
		for _, x := range made(rnd) {
			f := faceFor(x)
			loose := loosened(t, rnd, f.model(x))
			y, at, err := f.read(loose)
			if err == api.ErrDeep {
				continue
			}
			if err != api.OK || !same(x, y) {
				t.Fatalf("%s %q is read otherwise: %d %v", f.name, short(loose), at, err)
			}
			again(t, f, y)
		}
	}
}

// P7.3, of texts of tokens at random, as far as they are read.
func TestFlatTexts(t *testing.T) {
	rnd := rand.New(rand.NewSource(74))
	operands := []string{"a", "b", "1", "'x'", "null", ":v", "t.c", "count(*)", "sum(a+b)", "(a)", "(select (a) as x)", "exists ((select 1 as x))", "case when a then b else c end"}
	marks := strings.Fields("or and = <> < <= > >= + - || * / %")
	e := faceFor(api.Expr{})
	read := 0
	for range 20000 {
		var b strings.Builder
		for i := range 1 + rnd.Intn(6) {
			if i > 0 {
				b.WriteString(" " + marks[rnd.Intn(len(marks))] + " ")
			}
			for rnd.Intn(4) == 0 {
				b.WriteString([]string{"not ", "- ", "-", "( "}[rnd.Intn(4)])
			}
			b.WriteString(operands[rnd.Intn(len(operands))])
			for rnd.Intn(5) == 0 {
				b.WriteString([]string{" is null", " is not null", " in (select a as x)", " not in (select a as x)", ")"}[rnd.Intn(5)])
			}
		}
		if x, _, err := e.read(b.String()); err == api.OK {
			again(t, e, x)
			read++
		}
	}
	if read < 2500 {
		t.Errorf("just %d texts are read", read)
	}
}

// P7.3, of texts that are not laid as they would be written.
func TestOtherTexts(t *testing.T) {
	for _, c := range []struct {
		x          any
		text, want string
	}{
		{api.Expr{}, "a + b * c", "a + (b * c)"},
		{api.Expr{}, "not (a is null)", "not (a is null)"},
		{api.Expr{}, "not a is null", "not (a is null)"},
		{api.Expr{}, "a or b or c and not d", "(a or b) or (c and (not d))"},
		{api.Expr{}, "((a)) - - 007", "a - (-7)"},
		{api.Expr{}, "- ( - ( a . b ) )", "-(-a.b)"},
		{api.Expr{}, "COUNT+count ( * )", "COUNT + count(*)"},
		{api.Expr{}, "exists(((select a as x)))", "exists (select a as x)"},
		{api.Expr{}, "((select a as x))", "(select a as x)"},
		{api.Expr{}, "'a' -- b\n || 'it''s'", "'a' || 'it''s'"},
		{api.Query{}, "(select a as x) union ((select b as x) except select c as x)", "select a as x union (select b as x except select c as x)"},
		{api.Query{}, "((select a as x) union (select b as x)) except select c as x", "select a as x union select b as x except select c as x"},
		{api.Query{}, "select a as x from t as t join u visible as u on(a)", "select a as x from t join u visible on a"},
		{api.Script{}, "if a{}else{}", "if a {\n}\n"},
		{api.Script{}, "var x int;proc p(y text){var z bool;skip;}call p('a');", "var x int;\nproc p(y text) {\n  var z bool;\n  skip;\n}\ncall p('a');\n"},
		{api.Script{}, "insert into t(select a as x);try{skip;}catch{if a{raise;}}", "insert into t select a as x;\ntry {\n  skip;\n} catch {\n  if a {\n    raise;\n  }\n}\n"},
		{api.Schema{}, "limit 5; levels a; order a<b<c; levels b,c; limit 7;", "levels a, b, c;\norder a < b;\norder b < c;\nlimit 7;\n"},
		{api.Schema{}, "principal p a;channel c a;table t rows a(x int null a)key(x)hide a when(x=1);levels a;limit 0;", "levels a;\ntable t rows a (x int null a) key (x) hide a when x = 1;\nchannel c a;\nprincipal p a;\n"},
	} {
		f := faceFor(c.x)
		x, at, err := f.read(c.text)
		if err != api.OK {
			t.Fatalf("%q: %d %v", c.text, at, err)
		}
		writes(t, x, c.want)
		again(t, f, x)
	}
}

// P1: whatever is handed in is answered, as it is judged.
func TestAnything(t *testing.T) {
	rnd := rand.New(rand.NewSource(75))
	for range 8000 {
		for _, x := range []any{api.Expr{}, api.Query{}, api.Script{}, api.Schema{}} {
			v := reflect.New(reflect.TypeOf(x)).Elem()
			scribble(rnd, v, 3)
			holds(t, v.Interface(), "anything")
		}
	}
}

func scribble(rnd *rand.Rand, v reflect.Value, deep int) {
	switch v.Kind() {
	case reflect.Bool:
		v.SetBool(rnd.Intn(4) == 0)
	case reflect.Int:
		v.SetInt(int64(rnd.Intn(19) - 1))
	case reflect.String:
		v.SetString([]string{"", "", "a", "t", "or", "+", "count", " "}[rnd.Intn(8)])
	case reflect.Slice:
		if deep > 0 {
			v.Set(reflect.MakeSlice(v.Type(), []int{0, 0, 1, 1, 2}[rnd.Intn(5)], 2))
		}
		for i := range v.Len() {
			scribble(rnd, v.Index(i), deep-1)
		}
	case reflect.Struct:
		for i := range v.NumField() {
			scribble(rnd, v.Field(i), deep)
		}
	}
}

// P2 and the rules: a call hangs on what is handed in alone, which is not changed.
func TestCallsStandAlone(t *testing.T) {
	rnd := rand.New(rand.NewSource(76))
	for range 500 {
		for _, x := range made(rnd) {
			f := faceFor(x)
			kept := copied(reflect.ValueOf(x)).Interface()
			s, err := f.write(x)
			if !reflect.DeepEqual(x, kept) {
				t.Fatalf("%s %q: what is handed in is changed", f.name, short(s))
			}
			refuses(t, api.Expr{}, api.ErrForm)
			refuses(t, with(api.Schema{}, func(x *api.Schema) { x.Limit = -1 }), api.ErrForm)
			if s2, err2 := f.write(x); s2 != s || err2 != err {
				t.Errorf("%s %q %v: %q %v the second time", f.name, short(s), err, short(s2), err2)
			}
			if s2, err2 := f.write(emptied(reflect.ValueOf(x)).Interface()); s2 != s || err2 != err {
				t.Errorf("%s %q %v: with empty lists %q %v", f.name, short(s), err, short(s2), err2)
			}
		}
	}
}

// emptied is a copy in which lists without members are empty, not nil.
func emptied(v reflect.Value) reflect.Value {
	out := reflect.New(v.Type()).Elem()
	out.Set(v)
	switch v.Kind() {
	case reflect.Slice:
		out.Set(reflect.MakeSlice(v.Type(), v.Len(), v.Len()+1))
		for i := range v.Len() {
			out.Index(i).Set(emptied(v.Index(i)))
		}
	case reflect.Struct:
		for i := range v.NumField() {
			out.Field(i).Set(emptied(v.Field(i)))
		}
	}
	return out
}

// One list may be a part of several expressions.
func TestSharedParts(t *testing.T) {
	x, s := col("a"), "a"
	for range 8 {
		x = bin(x, "+", x)
		if s == "a" {
			s = "a + a"
		} else {
			s = "(" + s + ") + (" + s + ")"
		}
		writes(t, x, s)
	}
	for range 10 {
		x = bin(x, "+", x)
	}
	refuses(t, x, api.ErrMany)
}
