package syntax_test

import (
	"math/rand"
	"reflect"
	"strings"
	"testing"

	"cordon/api"
	"cordon/syntax"
)

// maker makes what can be read, at random, and its tokens beside. Places of statements are the numbers of their first tokens till the text is laid.
type maker struct {
	rnd    *rand.Rand
	tokens []string
	left   int // how much may still be made: with nothing left, what is made is short
}

func (m *maker) say(tokens ...string) { m.tokens = append(m.tokens, tokens...) }

func (m *maker) chance(n int) bool {
	m.left--
	return m.left > 0 && m.rnd.Intn(n) == 0
}

func (m *maker) pick(l ...string) string {
	s := l[m.rnd.Intn(len(l))]
	m.say(s)
	return s
}

func (m *maker) name() string { return m.pick("a", "b", "t", "u", "count", "max", "_x9", "Select") }

func makeList[T any](m *maker, between string, one func() T) []T {
	out := []T{one()}
	for m.chance(3) {
		m.say(between)
		out = append(out, one())
	}
	return out
}

func (m *maker) chain(operand func() api.Expr, marks ...string) api.Expr {
	x := operand()
	for m.chance(5) {
		mark := m.pick(marks...)
		x = bin(x, mark, operand())
	}
	return x
}

func (m *maker) expr() api.Expr { return m.chain(m.and, "or") }
func (m *maker) and() api.Expr  { return m.chain(m.not, "and") }
func (m *maker) sum() api.Expr  { return m.chain(m.prod, "+", "-", "||") }
func (m *maker) prod() api.Expr { return m.chain(m.unary, "*", "/", "%") }

func (m *maker) not() api.Expr {
	if m.chance(8) {
		m.say("not")
		return not(m.not())
	}
	x := m.sum()
	turned := m.rnd.Intn(2)
	switch {
	case m.chance(5):
		return bin(x, m.pick("=", "<>", "<", "<=", ">", ">="), m.sum())
	case m.chance(8):
		m.say(strings.Fields([]string{"is null", "is not null"}[turned])...)
		return is(turned, x)
	case m.chance(10):
		m.say(strings.Fields([]string{"in (", "not in ("}[turned])...)
		q := m.query()
		m.say(")")
		return in(turned, x, q)
	}
	return x
}

func (m *maker) unary() api.Expr {
	if m.chance(8) {
		m.say("-")
		return neg(m.unary())
	}
	return m.prim()
}

func (m *maker) prim() api.Expr {
	if !m.chance(2) {
		return m.small()
	}
	var x api.Expr
	switch m.rnd.Intn(5) {
	case 0:
		m.say("(")
		x = m.expr()
	case 1:
		m.say("(")
		x = scalar(m.chained(m.selected()))
	case 2:
		m.say("exists", "(")
		x = exists(m.query())
	case 3:
		name := m.pick("count", "sum", "min", "max")
		m.say("(")
		x = agg(name, m.expr())
	default:
		m.say("case", "when")
		a := m.expr()
		m.say("then")
		b := m.expr()
		m.say("else")
		x = choice(a, b, m.expr())
		m.say("end")
		return x
	}
	m.say(")")
	return x
}

func (m *maker) small() api.Expr {
	switch m.rnd.Intn(9) {
	case 0:
		m.say("42")
		return num(42)
	case 1:
		m.say("'it''s'")
		return text("it's")
	case 2:
		m.say("null")
		return null()
	case 3:
		m.say("true")
		return yes()
	case 4:
		m.say("false")
		return no()
	case 5:
		m.say(":")
		return variable(m.name())
	case 6:
		m.say("count", "(", "*", ")")
		return agg("count")
	case 7:
		t := m.name()
		m.say(".")
		return colOf(t, m.name())
	}
	return col(m.name())
}

func (m *maker) query() api.Query { return m.chained(m.part()) }

func (m *maker) chained(q api.Query) api.Query {
	kinds := map[string]int{"union": api.QuUnion, "union all": api.QuUnionAll, "except": api.QuExcept, "intersect": api.QuIntersect}
	words := []string{"union", "union all", "except", "intersect"}
	for m.chance(5) {
		w := words[m.rnd.Intn(len(words))]
		m.say(strings.Fields(w)...)
		q = put(kinds[w], q, m.part())
	}
	return q
}

func (m *maker) part() api.Query {
	if m.chance(5) {
		m.say("(")
		q := m.query()
		m.say(")")
		return q
	}
	return m.selected()
}

func (m *maker) selected() api.Query {
	m.say("select")
	q := api.Query{Kind: api.QuSelect, Limit: -1}
	if m.chance(4) {
		m.say("distinct")
		q.Distinct = true
	}
	q.Items = makeList(m, ",", func() api.Item {
		x := m.expr()
		m.say("as")
		return item(x, m.name())
	})
	if m.chance(2) {
		m.say("from")
		q.From = []api.From{m.source()}
	}
	q.Where = m.behind("where")
	if m.chance(4) {
		m.say("group", "by")
		q.Group = makeList(m, ",", m.expr)
		q.Having = m.behind("having")
	}
	if m.chance(4) {
		m.say("order", "by")
		q.Order = makeList(m, ",", func() api.Key {
			k := api.Key{E: m.expr()}
			if m.chance(2) {
				m.say("desc")
				k.Desc = true
			}
			return k
		})
	}
	if m.chance(4) {
		m.say("limit", "10")
		q.Limit = 10
	}
	return q
}

func (m *maker) behind(word string) []api.Expr {
	if !m.chance(4) {
		return nil
	}
	m.say(word)
	return []api.Expr{m.expr()}
}

func (m *maker) source() api.From {
	f := m.oneSource()
	for m.chance(4) {
		kind := api.FrJoin
		if m.chance(2) {
			m.say("left")
			kind = api.FrLeft
		}
		m.say("join")
		right := m.oneSource()
		m.say("on")
		f = join(kind, f, right, m.expr())
	}
	return f
}

func (m *maker) oneSource() api.From {
	if m.chance(4) {
		m.say("(")
		q := m.query()
		m.say(")", "as")
		return api.From{Kind: api.FrQuery, As: m.name(), Q: []api.Query{q}}
	}
	f := table(m.name())
	if m.chance(3) {
		m.say("visible")
		f.Visible = true
	}
	if m.chance(3) {
		m.say("as")
		f.As = m.name()
	}
	return f
}

func (m *maker) typed() int {
	return map[string]int{"int": api.TyInt, "bool": api.TyBool, "text": api.TyText}[m.pick("int", "bool", "text")]
}

func (m *maker) variable() api.Var {
	name := m.name()
	return api.Var{Name: name, Type: m.typed()}
}

func (m *maker) decls() []api.Var {
	var out []api.Var
	for m.chance(2) {
		m.say("var")
		out = append(out, m.variable())
		m.say(";")
	}
	return out
}

func (m *maker) script() api.Script {
	out := api.Script{Vars: m.decls()}
	for m.chance(2) {
		m.say("proc")
		p := api.Proc{Name: m.name()}
		m.say("(")
		if m.chance(2) {
			p.Params = makeList(m, ",", m.variable)
		}
		m.say(")", "{")
		p.Vars = m.decls()
		p.Body = m.stmts()
		m.say("}")
		out.Procs = append(out.Procs, p)
	}
	out.Body = m.stmts()
	return out
}

func (m *maker) stmts() []api.Stmt {
	var out []api.Stmt
	for m.left > 0 && m.rnd.Intn(4) > 0 {
		m.left--
		out = append(out, m.stmt())
	}
	return out
}

func (m *maker) block() []api.Stmt {
	m.say("{")
	out := m.stmts()
	m.say("}")
	return out
}

func (m *maker) stmt() api.Stmt {
	s := api.Stmt{Kind: 1 + m.rnd.Intn(api.StInput), At: len(m.tokens)}
	switch s.Kind {
	case api.StIf:
		m.say("if")
		s.E, s.Body = one(m.expr()), m.block()
		if m.chance(2) {
			m.say("else")
			s.Else = m.block()
		}
		return s
	case api.StWhile:
		m.say("while")
		s.E, s.Body = one(m.expr()), m.block()
		return s
	case api.StFor:
		m.say("for")
		s.Names = makeList(m, ",", m.name)
		m.say("in")
		s.Q, s.Body = []api.Query{m.query()}, m.block()
		return s
	case api.StTry:
		m.say("try")
		s.Body = m.block()
		m.say("catch")
		s.Else = m.block()
		return s
	}
	m.plain(&s)
	m.say(";")
	return s
}

func (m *maker) plain(s *api.Stmt) {
	assign := func() bool {
		s.Names = append(s.Names, m.name())
		m.say("=")
		s.E = append(s.E, m.expr())
		return true
	}
	switch s.Kind {
	case api.StSet:
		m.say("set")
		assign()
	case api.StPrint:
		m.say("print")
		s.Table, s.E = m.name(), one(m.expr())
	case api.StInput:
		m.say("input")
		s.Names = []string{m.name()}
	case api.StInsert:
		m.say("insert", "into")
		s.Table = m.name()
		m.say("values", "(")
		s.E = makeList(m, ",", m.expr)
		m.say(")")
	case api.StInsertQ:
		m.say("insert", "into")
		s.Table, s.Q = m.name(), []api.Query{m.query()}
	case api.StUpdate:
		m.say("update")
		s.Table = m.name()
		m.say("set")
		makeList(m, ",", assign)
		s.Where = m.behind("where")
	case api.StDelete:
		m.say("delete", "from")
		s.Table, s.Where = m.name(), m.behind("where")
	case api.StCall:
		m.say("call")
		s.Table = m.name()
		m.say("(")
		if m.chance(2) {
			s.E = makeList(m, ",", m.expr)
		}
		m.say(")")
	default:
		m.say(map[int]string{api.StRaise: "raise", api.StBegin: "begin", api.StCommit: "commit", api.StRollback: "rollback", api.StSkip: "skip"}[s.Kind])
	}
}

func (m *maker) schema() api.Schema {
	var out api.Schema
	named := func(word string) api.Pair {
		m.say(word)
		name := m.name()
		return pair(name, m.name())
	}
	for m.left > 0 && m.rnd.Intn(6) > 0 {
		m.left--
		switch m.rnd.Intn(6) {
		case 0:
			m.say("levels")
			out.Levels = append(out.Levels, makeList(m, ",", m.name)...)
		case 1:
			m.say("order")
			low := m.name()
			m.say("<")
			for _, high := range makeList(m, "<", m.name) {
				out.Edges = append(out.Edges, pair(low, high))
				low = high
			}
		case 2:
			out.Tables = append(out.Tables, m.table())
		case 3:
			out.Channels = append(out.Channels, named("channel"))
		case 4:
			out.Principals = append(out.Principals, named("principal"))
		case 5:
			m.say("limit", "0012")
			out.Limit = 12
		}
		m.say(";")
	}
	return out
}

func (m *maker) table() api.Table {
	m.say("table")
	t := api.Table{Name: m.name()}
	m.say("rows")
	t.Rows = m.name()
	m.say("(")
	t.Cols = makeList(m, ",", func() api.Col {
		c := api.Col{Name: m.name()}
		c.Type = m.typed()
		if m.chance(2) {
			m.say("null")
			c.Null = true
		}
		c.Level = m.name()
		return c
	})
	m.say(")")
	if m.chance(2) {
		m.say("key", "(")
		t.Key = makeList(m, ",", m.name)
		m.say(")")
	}
	if m.chance(2) {
		m.say("hide")
		t.Hide = m.name()
		m.say("when")
		t.When = one(m.expr())
	}
	return t
}

// laid is the tokens as a text, with something passed over between them, and their places.
func (m *maker) laid() (string, []int) {
	gaps := []string{" ", " ", "  ", "\n", "\t", "\r\n", " -- it's ) a remark\n"}
	var b strings.Builder
	var at []int
	for _, k := range m.tokens {
		b.WriteString(gaps[m.rnd.Intn(len(gaps))])
		at = append(at, b.Len())
		b.WriteString(k)
	}
	b.WriteString(gaps[m.rnd.Intn(len(gaps))])
	return b.String(), at
}

// placed is statements with the places of their first tokens, of which they have the numbers.
func placed(l []api.Stmt, at []int) []api.Stmt {
	var out []api.Stmt
	for _, s := range l {
		s.At = at[s.At]
		s.Body, s.Else = placed(s.Body, at), placed(s.Else, at)
		out = append(out, s)
	}
	return out
}

// made is a text and what must be read of it.
func made(rnd *rand.Rand, r read) (string, any) {
	m := &maker{rnd: rnd, left: 1 + rnd.Intn(60)}
	switch r.name {
	case "Expr":
		x := m.expr()
		s, _ := m.laid()
		return s, x
	case "Query":
		q := m.query()
		s, _ := m.laid()
		return s, q
	case "Schema":
		x := m.schema()
		s, _ := m.laid()
		return s, x
	}
	x := m.script()
	s, at := m.laid()
	x.Body = placed(x.Body, at)
	for i := range x.Procs {
		x.Procs[i].Body = placed(x.Procs[i].Body, at)
	}
	return s, x
}

// P6.1: what is made is read, unless it is too deep.
func TestMadeIsRead(t *testing.T) {
	rnd := rand.New(rand.NewSource(6))
	j := &judge{rules: rules()}
	for range 4000 {
		for _, r := range allFour() {
			s, want := made(rnd, r)
			if at, err := j.judged(r.start, s); err != api.OK {
				refuses(t, r, s, at, err)
			} else {
				reads(t, r, s, want)
			}
		}
	}
}

// P6.1: what is made, and then spoilt, once or several times, is told at the first place.
func TestMadeAndSpoilt(t *testing.T) {
	rnd := rand.New(rand.NewSource(61))
	j := &judge{rules: rules()}
	for range 4000 {
		for _, r := range allFour() {
			m := &maker{rnd: rnd, left: 1 + rnd.Intn(40)}
			switch r.name {
			case "Expr":
				m.expr()
			case "Query":
				m.query()
			case "Script":
				m.script()
			case "Schema":
				m.schema()
			}
			for range 1 + rnd.Intn(3) {
				m.tokens = spoilt(rnd, m.tokens)
			}
			s, _ := m.laid()
			j.holds(t, r, s)
		}
	}
}

func spoilt(rnd *rand.Rand, tokens []string) []string {
	all := alphabet()
	i := rnd.Intn(len(tokens) + 1)
	out := append([]string{}, tokens[:i]...)
	switch rnd.Intn(4) {
	case 0: // one too many
		return append(append(out, all[rnd.Intn(len(all))]), tokens[i:]...)
	case 1: // cut off
		return out
	case 2: // some twice
		return append(out, tokens[rnd.Intn(i+1):]...)
	}
	if i == len(tokens) {
		return out
	}
	if rnd.Intn(2) == 0 { // another one
		out = append(out, all[rnd.Intn(len(all))])
	}
	return append(out, tokens[i+1:]...)
}

// P6.2: an expression in brackets is the expression, wherever it stands.
func TestBrackets(t *testing.T) {
	rnd := rand.New(rand.NewSource(62))
	for range 4000 {
		s, _ := made(rnd, exprs())
		want, _, err := syntax.Expr(s)
		if err != api.OK {
			continue
		}
		_, _, tooDeep := syntax.Expr("not (" + s + ")")
		if tooDeep == api.ErrDeep {
			continue
		}
		reads(t, exprs(), "("+s+")", want)
		reads(t, exprs(), "not ("+s+")", not(want))
		reads(t, queries(), "select ("+s+") as x", sel(item(want, "x")))
		reads(t, scripts(), "set x = ("+s+");", body(api.Stmt{Kind: api.StSet, Names: []string{"x"}, E: one(want)}))
		reads(t, schemas(), "table t rows l (a int l) hide l when ("+s+");", api.Schema{Tables: []api.Table{
			{Name: "t", Rows: "l", Cols: cols(api.Col{Name: "a", Type: api.TyInt, Level: "l"}), Hide: "l", When: one(want)}}})
	}
}

// P6.3: two scripts of statements, one behind the other, are the statements of both.
func TestScriptsJoined(t *testing.T) {
	rnd := rand.New(rand.NewSource(63))
	statementsOf := func() (string, api.Script) {
		for {
			m := &maker{rnd: rnd, left: 1 + rnd.Intn(40)}
			m.stmts()
			s, _ := m.laid()
			if x, _, err := syntax.Script(s); err == api.OK {
				return s, x
			}
		}
	}
	for range 4000 {
		a, first := statementsOf()
		b, second := statementsOf()
		reads(t, scripts(), a+b, body(append(first.Body, moved(second.Body, len(a))...)...))
	}
}

// P6.3, of a script that is refused: what is wrong in the second one stands as much further right.
func TestWrongScriptsJoined(t *testing.T) {
	for _, wrong := range []string{"skip", "set x = ;", "}", "var x int;", "proc p() { }", "if a { skip; ", "call p(1,);", "1", "print out a b;"} {
		_, at, err := syntax.Script("skip; " + wrong)
		for s := range statements() {
			refuses(t, scripts(), s+wrong, len(s)+at-len("skip; "), err)
		}
	}
}

// P1: all texts are answered, whatever their bytes are, and the same each time.
func TestAnyBytes(t *testing.T) {
	rnd := rand.New(rand.NewSource(64))
	j := &judge{rules: rules()}
	some := "ab1 '-\n(){};:=<>|*,._\x00\xff\t"
	for range 20000 {
		b := make([]byte, rnd.Intn(12))
		for i := range b {
			b[i] = some[rnd.Intn(len(some))]
		}
		for _, r := range allFour() {
			j.holds(t, r, string(b))
		}
	}
	for c := range 256 {
		for _, r := range allFour() {
			j.holds(t, r, string([]byte{byte(c)}))
			j.holds(t, r, "a "+string([]byte{byte(c)})+" b")
		}
	}
}

// P2 and the rules: a call hangs on its text alone, and what is handed out is the caller's own.
func TestCallsStandAlone(t *testing.T) {
	rnd := rand.New(rand.NewSource(65))
	for range 300 {
		for _, r := range allFour() {
			s, _ := made(rnd, r)
			first, at, err := r.call(s)
			if err != api.OK {
				continue
			}
			kept := told(first)
			for _, other := range allFour() {
				other.call(s + " )")
				other.call(strings.Repeat("(", api.MaxNest+1))
			}
			spoil(reflect.ValueOf(&first).Elem().Elem())
			again, at2, err2 := r.call(s)
			if told(again) != kept || at2 != at || err2 != err {
				t.Errorf("%s %q: another answer the second time", r.name, short(s))
			}
		}
	}
}

// spoil writes over the members of all lists.
func spoil(v reflect.Value) {
	switch v.Kind() {
	case reflect.Slice:
		for i := range v.Len() {
			spoil(v.Index(i))
			v.Index(i).Set(reflect.Zero(v.Index(i).Type()))
		}
	case reflect.Struct:
		for i := range v.NumField() {
			spoil(v.Field(i))
		}
	}
}

// No two lists of one answer share anything: each member of one list can be changed without another one changing.
func TestListsStandAlone(t *testing.T) {
	rnd := rand.New(rand.NewSource(66))
	for range 500 {
		for _, r := range allFour() {
			s, _ := made(rnd, r)
			x, _, _ := r.call(s)
			seen := map[uintptr]string{}
			apart(t, seen, reflect.ValueOf(x), r.name+" "+short(s))
		}
	}
}

func apart(t *testing.T, seen map[uintptr]string, v reflect.Value, where string) {
	switch v.Kind() {
	case reflect.Slice:
		if v.Cap() > 0 {
			if _, twice := seen[v.Pointer()]; twice {
				t.Errorf("%s: two lists are one", where)
			}
			seen[v.Pointer()] = where
		}
		for i := range v.Len() {
			apart(t, seen, v.Index(i), where)
		}
	case reflect.Struct:
		for i := range v.NumField() {
			apart(t, seen, v.Field(i), where)
		}
	}
}
