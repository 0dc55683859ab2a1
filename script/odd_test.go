package script_test

import (
	"fmt"
	"math"
	"reflect"
	"strings"
	"testing"

	"cordon/api"
	"cordon/schema"
	"cordon/script"
)

// bend changes one part of a script that was made: a number, a text, or a list.
func (m *maker) bend(s *api.Script) {
	var parts []reflect.Value
	walked(reflect.ValueOf(s).Elem(), func(v reflect.Value) {
		switch v.Kind() {
		case reflect.Int, reflect.String, reflect.Slice:
			parts = append(parts, v)
		}
	})
	v := pick(m, parts...)
	switch v.Kind() {
	case reflect.Int:
		v.SetInt(int64(pick(m, 0, 1, -1, int(v.Int())+1, int(v.Int())-1, m.Intn(20), math.MaxInt, math.MinInt)))
	case reflect.String:
		v.SetString(pick(m, "", "a", "b", "x", "t", "u", "p", "out", "nosuch", "select", "+", "||", "a b", strings.Repeat("n", api.MaxName+1)))
	case reflect.Slice:
		at := m.Intn(v.Len() + 1)
		switch {
		case m.often(50) && at < v.Len(): // once more
			v.Set(reflect.Append(v.Slice3(0, v.Len(), v.Len()), copyOf(v.Index(at))))
		case at < v.Len(): // one less
			v.Set(reflect.AppendSlice(v.Slice3(0, at, at), v.Slice(at+1, v.Len())))
		default: // one that is zero
			v.Set(reflect.Append(v.Slice3(0, v.Len(), v.Len()), reflect.Zero(v.Type().Elem())))
		}
	}
}

// P1, of scripts in which parts are bent, so that most are none that is read from a text: none panics, and the second way tells the same.
func TestBent(t *testing.T) {
	ends := map[string]int{}
	for seed := range 6000 {
		m := makerOf(t, 400000+seed, 0)
		s := copied(m.script())
		for range 1 + m.Intn(2) {
			m.bend(&s)
		}
		_, got := watched(t, m.catalog, s)
		if t.Failed() {
			t.Fatalf("seed %d", seed)
		}
		ends[strings.Fields(got)[0]]++
	}
	enough(t, ends, 10, "OK", "ErrForm", "ErrName", "ErrType", "ErrShape")
}

// As deep as may be: 2^16 parts within one another.
func TestDeep(t *testing.T) {
	const deep = 1<<16 - 16
	block, not := api.Stmt{Kind: api.StSkip}, api.Expr{Kind: api.ExNull}
	for range deep {
		block = api.Stmt{Kind: api.StTry, Else: one(block)}
		not = api.Expr{Kind: api.ExNot, Kids: one(not)}
	}
	for _, s := range []api.Script{
		{Body: one(block)}, {Procs: one(api.Proc{Name: "p", Body: one(block)})}, {Body: one(api.Stmt{Kind: api.StPrint, Table: "out", E: one(not)})},
	} {
		check(t, "deep", answerOf(script.Compile(ours(), s)), "ErrDeep 0")
		check(t, "no catalog", answerOf(script.Compile(nil, s)), "ErrNil 0")
	}
}

// A script as long as may be over a catalog as great as may be.
func TestMuch(t *testing.T) {
	cols := numbered(api.MaxCols, func(i int) string { return fmt.Sprint("c", i, " int null low") })
	text := "levels low; "
	for i := range api.MaxTables {
		text += fmt.Sprintf("channel h%d low; table t%d rows low (%s) key (c0) hide low when c1 = 1;", i, i, strings.Join(cols, ", "))
	}
	c := catalogOf(text)
	var s api.Script
	row := strings.Repeat("1, ", api.MaxCols-1) + "1"
	update := strings.Join(numbered(api.MaxCols-2, func(i int) string { return fmt.Sprintf("c%d = c%d", i+2, i) }), ", ")
	for i := range 28 {
		s.Body = append(s.Body, scriptOf(t, fmt.Sprintf("insert into t%d values (%s); update t%d set %s where c0 = %d; print h%d %d;", i%20, row, i%20, update, i, i%20, i)).Body...)
	}
	p, at, err := script.Compile(c, s)
	check(t, "much", answerOf(p, at, err), "OK 0")
	for i, op := range p.Procs[0].Body {
		check(t, i, op.N, i/3%20)
	}
	check(t, "columns", len(p.Procs[0].Body[1].Cols), api.MaxCols-2)
}

// Catalogs that have little, or what no script can name.
func TestOddCatalogs(t *testing.T) {
	odd, _, err := schema.New(api.Schema{
		Levels: one("low"), Channels: one(api.Pair{Low: "select", High: "low"}, api.Pair{Low: "out", High: "low"}),
		Tables: one(
			api.Table{Name: "a b", Rows: "low", Cols: one(api.Col{Name: "x", Type: api.TyInt, Level: "low"})},
			api.Table{Name: "t", Rows: "low", Cols: one(api.Col{Name: "in", Type: api.TyInt, Level: "low"}, api.Col{Name: "x", Type: api.TyText, Level: "low"})},
		),
	})
	check(t, "a catalog", err, api.OK)
	for _, c := range []struct {
		catalog    *schema.Catalog
		text, want string
	}{
		{catalogOf("levels low;"), "skip; raise;", "OK 0"},
		{catalogOf("levels low;"), "delete from t;", "ErrName 0"},
		{catalogOf("levels low; table t rows low (a int low);"), "skip; print out 1;", "ErrName 6"},
		{catalogOf("levels low; table t rows low (a int low);"), "update t set b = 1;", "ErrName 0"},
		{catalogOf("levels low; channel out low;"), "print out 1; update t set b = 1;", "ErrName 13"},
		{odd, "print out 1; insert into t values (1, 'a'); update t set x = 'b' where x = 'a';", "OK 0"},
		{odd, "update t set x = 1;", "ErrType 0"},
	} {
		p, got := watched(t, c.catalog, scriptOf(t, c.text))
		check(t, c.text, got, c.want)
		for _, code := range p.Procs {
			eachOp(code.Body, func(op *api.Op) {
				if op.Kind != api.StSkip && op.Kind != api.StRaise {
					check(t, c.text, op.N, 1)
				}
			})
		}
	}
}
