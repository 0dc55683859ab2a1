package interp_test

import (
	"fmt"
	"math"
	"reflect"
	"strings"
	"testing"

	"cordon/api"
)

func constant(x any) api.Node {
	v := val(x)
	return api.Node{Kind: api.ExNull + v.Type, N: v.N, S: v.S}
}

// ran is what a program that no call made tells, over our tables; its first procedure tells its parameter n.
func ran(t testing.TB, body ...api.Op) string {
	t.Helper()
	tells := api.Code{Name: "p", Params: one(api.Var{Name: "n", Type: api.TyInt}), Body: one(api.Op{Kind: api.StPrint, E: one(api.Node{Kind: api.ExVar, S: "n"})})}
	p := api.Program{Procs: one(tells, api.Code{Vars: one(api.Var{Name: "x", Type: api.TyInt}), Body: body})}
	return watched(t, ask{ours(), p, one(7), 200}).text(ours())
}

var tellX = api.Op{Kind: api.StPrint, E: one(api.Node{Kind: api.ExVar, S: "x"})}

// P1, of programs that layer 15 did not make: kinds, tables, procedures and columns that are not there end the run, and can't be caught.
func TestNotThere(t *testing.T) {
	one1, scan := one(constant(1)), one(api.Plan{Kind: api.PlScan, Width: 2})
	for _, op := range []api.Op{
		{}, {Kind: -1}, {Kind: 18}, {Kind: 99, E: one1}, {Kind: math.MaxInt}, {Kind: math.MinInt},
		{Kind: api.StCall, N: -1}, {Kind: api.StCall, N: 2}, {Kind: api.StCall, N: math.MaxInt, E: one1}, {Kind: api.StCall, N: math.MinInt},
		{Kind: api.StInsert, N: -1, E: one1}, {Kind: api.StInsert, N: 5, E: one1}, {Kind: api.StInsertQ, N: 5, Plan: scan}, {Kind: api.StInsertQ, N: math.MinInt, Plan: scan},
		{Kind: api.StUpdate, N: 5, Cols: one(0), E: one1}, {Kind: api.StUpdate, Cols: one(2), E: one1}, {Kind: api.StUpdate, Cols: one(-1), E: one1}, {Kind: api.StUpdate, Cols: one(1, 1), E: one(constant(1), constant(2))},
		{Kind: api.StDelete, N: 5}, {Kind: api.StDelete, N: math.MaxInt},
		{Kind: api.StSet, Names: one("x")}, {Kind: api.StPrint}, {Kind: api.StIf, Body: one(tellX)}, {Kind: api.StWhile, Body: one(tellX)}, {Kind: api.StFor, Names: one("x"), Body: one(tellX)}, {Kind: api.StInsertQ},
		{Kind: api.StSet, Names: one("x"), E: one(api.Node{Kind: 77})}, {Kind: api.StFor, Names: one("x"), Plan: one(api.Plan{Kind: 77})}, {Kind: api.StCall, E: one(api.Node{})},
	} {
		check(t, op, ran(t, tellX, op, tellX), "null ErrArg")
		check(t, op, ran(t, api.Op{Kind: api.StTry, Body: one(tellX, op), Else: one(tellX)}), "null ErrArg")
	}
	check(t, "too few values", ran(t, api.Op{Kind: api.StInsert, E: one1}), "ErrShape")
	check(t, "too few columns", ran(t, api.Op{Kind: api.StInsertQ, N: 3, Plan: scan}), "ErrShape")
	check(t, "too few nodes", ran(t, api.Op{Kind: api.StUpdate, Cols: one(1)}), "ErrShape")
	check(t, "a fixed column", ran(t, api.Op{Kind: api.StUpdate, Cols: one(0), E: one1}), "ErrShape")
	check(t, "another type", ran(t, api.Op{Kind: api.StUpdate, Cols: one(1), E: one(constant("a"))}), "ErrType")
}

// Lists that are too short or too long where that does not matter: what is there is done.
func TestTooShort(t *testing.T) {
	one1, scan := one(constant(1)), one(api.Plan{Kind: api.PlScan, Width: 2})
	for _, c := range []struct {
		body []api.Op
		want string
	}{
		{one(api.Op{Kind: api.StSet, E: one1}, tellX), "null OK"},
		{one(api.Op{Kind: api.StSet, Names: one("x", "y"), E: one(constant(1), constant(2))}, tellX), "1 OK"},
		{one(api.Op{Kind: api.StSet, Names: one("nosuch"), E: one1}, tellX), "null OK"},
		{one(api.Op{Kind: api.StInput}, tellX, api.Op{Kind: api.StInput, Names: one("x")}, tellX), "null null OK"},
		{one(api.Op{Kind: api.StInput, Names: one("x", "x")}, tellX), "7 OK"},
		{one(api.Op{Kind: api.StFor, Plan: scan, Body: one(tellX)}), "null null null OK"},
		{one(api.Op{Kind: api.StFor, Names: one("x"), Plan: scan, Body: one(tellX)}), "1 2 3 OK"},
		{one(api.Op{Kind: api.StFor, Names: one("y", "z", "x"), Plan: scan, Body: one(tellX)}), "null null null OK"},
		{one(api.Op{Kind: api.StFor, Names: one("x"), Plan: one(api.Plan{Kind: api.PlScan, N: 77}), Body: one(tellX)}, tellX), "null OK"},
		{one(api.Op{Kind: api.StCall}), "null OK"},
		{one(api.Op{Kind: api.StCall, E: one(constant(4), constant(5))}), "4 OK"},
		{one(api.Op{Kind: api.StDelete, N: 3, Where: one(constant(true), constant(false))}), "OK o none"},
		{one(api.Op{Kind: api.StPrint, N: 99, E: one1}, api.Op{Kind: api.StPrint, N: -1, E: one1}), "99:1 -1:1 OK"},
		{one(api.Op{Kind: api.StPrint, E: one(api.Node{Kind: api.ExCol, N: 3})}, api.Op{Kind: api.StPrint, E: one(api.Node{Kind: api.ExVar, S: "nosuch"})}), "null null OK"},
		{one(api.Op{Kind: api.StIf, E: one1, Body: one(tellX), Else: one(tellX, tellX)}), "null null OK"},
		{one(api.Op{Kind: api.StSkip, Body: one(tellX), Else: one(tellX), E: one(api.Node{Kind: 77})}), "OK"},
	} {
		check(t, c.body, ran(t, c.body...), c.want)
	}
	check(t, "it calls itself", ran(t, tellX, api.Op{Kind: api.StCall, N: 1}), strings.Repeat("null ", 51)+"ErrFuel")
}

// The frame of what a program does itself has no parameters, if there should be some: they are null.
func TestWithoutParameters(t *testing.T) {
	p := api.Program{Procs: one(api.Code{Params: one(api.Var{Name: "x", Type: api.TyInt}), Vars: one(api.Var{Name: "x", Type: api.TyInt}), Body: one(tellX)})}
	check(t, "x", watched(t, ask{ours(), p, one(1), 9}).text(ours()), "null OK")
}

// bend changes one part of a program that was made: a number, a text, or a list.
func (m *maker) bend(p *api.Program) {
	var parts []reflect.Value
	walked(reflect.ValueOf(p).Elem(), func(v reflect.Value) {
		switch v.Kind() {
		case reflect.Int, reflect.String, reflect.Slice:
			parts = append(parts, v)
		}
	})
	v := pick(m, parts...)
	switch v.Kind() {
	case reflect.Int:
		v.SetInt(int64(pick(m, 0, 1, -1, int(v.Int())+1, int(v.Int())-1, m.Intn(20), math.MaxInt, math.MinInt)))
	case reflect.String:
		v.SetString(pick(m, "", "a", "b", "c", "d", "nosuch", "+", "||", "=", "count", strings.Repeat("n", api.MaxText+1)))
	case reflect.Slice:
		at := m.Intn(v.Len() + 1)
		switch {
		case m.often(50) && at < v.Len(): // once more
			v.Set(reflect.Append(v.Slice3(0, v.Len(), v.Len()), copyOf(v.Index(at))))
		case at < v.Len(): // one less
			v.Set(reflect.AppendSlice(v.Slice3(0, at, at), v.Slice(at+1, v.Len())))
		default: // one that is zero
			v.Set(reflect.Append(v.Slice3(0, v.Len(), v.Len()), reflect.Zero(v.Type().Elem())))
		}
	}
}

// P1, P2, of programs in which parts are bent: none panics, the store stays, its rows are right then, and the second way tells the same.
func TestBent(t *testing.T) {
	ends := map[string]int{}
	for seed := range 4000 {
		m := makerOf(t, 200000+seed)
		p := copied(compiled(t, m.catalog, m.script()))
		for range 1 + m.Intn(3) {
			m.bend(&p)
		}
		if len(p.Procs) == 0 {
			continue
		}
		got := watched(t, ask{m.db(), p, m.inputs(), pick(m, 10, 100, 300)})
		ends[errNames[got.err]]++
		for i, rows := range tablesOf(got.tables) {
			for _, r := range rows {
				check(t, "a row fits", got.tables.Fits(i, r), api.OK)
			}
		}
		if t.Failed() {
			t.Fatalf("seed %d", seed)
		}
	}
	enough(t, ends, 10, "OK", "ErrArg", "ErrType", "ErrShape", "ErrFuel", "ErrRows", "ErrNull", "ErrKey")
}

// A program over the tables of another catalog than the one that it was made for.
func TestOtherTables(t *testing.T) {
	ends := map[string]int{}
	for seed := range 1500 {
		m, other := makerOf(t, 300000+seed), makerOf(t, 310000+seed)
		got := watched(t, ask{other.db(), compiled(t, m.catalog, m.script()), m.inputs(), 200})
		ends[errNames[got.err]]++
		if t.Failed() {
			t.Fatalf("seed %d", seed)
		}
	}
	enough(t, ends, 10, "OK", "ErrArg", "ErrType", "ErrShape")
}

// As deep as may be: 2^16 parts within one another.
func TestDeep(t *testing.T) {
	const deep = 1<<16 - 16
	body, other, sum := tellX, tellX, constant(1)
	for range deep {
		body = api.Op{Kind: api.StTry, Body: one(body)}
		other = api.Op{Kind: api.StIf, E: one(constant(nil)), Else: one(other)}
		sum = api.Node{Kind: api.ExBin, S: "+", Kids: one(sum, constant(1))}
	}
	for _, op := range []api.Op{body, other} {
		p := api.Program{Procs: one(api.Code{Body: one(op)})}
		check(t, "deep", ask{ours(), p, nil, math.MaxInt}.run().text(ours()), "ErrFuel")
	}
	p := api.Program{Procs: one(api.Code{Body: one(api.Op{Kind: api.StPrint, E: one(sum)})})}
	check(t, "deep", ask{ours(), p, nil, 1}.run().text(ours()), fmt.Sprint(deep+1, " OK"))
}

// Blocks within 50 calls within one another, as deep as there is fuel.
func TestDeepCalls(t *testing.T) {
	op := api.Op{Kind: api.StCall}
	for range 98 {
		op = api.Op{Kind: api.StTry, Body: one(op)}
	}
	p := api.Program{Procs: one(api.Code{Body: one(op)}, api.Code{Body: one(api.Op{Kind: api.StCall}, tellX)})}
	check(t, "deep", watched(t, ask{ours(), p, nil, api.MaxFuel}).text(ours()), "ErrFuel")
}

// A script as long as may be, with as many variables as that has room for, that runs as long as may be; and a program with many more.
func TestMuch(t *testing.T) {
	vars := strings.Join(numbered(1400, func(i int) string { return fmt.Sprintf("var v%d int;", i) }), "")
	text := vars + "set v1399 = 0; while true { set v1399 = :v1399 + 1; if :v1399 = 1665 { print out :v1399; } }"
	check(t, "a script", toldWith(t, text, api.MaxFuel), "1665 ErrFuel")
	many := numbered(20000, func(i int) api.Var { return api.Var{Name: fmt.Sprint("v", i), Type: api.TyInt} })
	tells := api.Op{Kind: api.StPrint, E: one(api.Node{Kind: api.ExVar, S: "v19999"})}
	body := numbered(40, func(i int) api.Op {
		return api.Op{Kind: api.StSet, Names: one(fmt.Sprint("v", 19999-i)), E: one(constant(i))}
	})
	p := api.Program{Procs: one(api.Code{Vars: many, Body: append(body, tells)})}
	check(t, "a program", ask{ours(), p, nil, 100}.run().text(ours()), "0 OK")
	inputs := numbered(100000, func(i int) int { return i })
	p = programOf(t, ourCatalog(), "var x int; while true { input x; print out :x; }")
	got := ask{ours(), p, inputs, api.MaxFuel}.run()
	check(t, "inputs", len(got.told), 1666)
	check(t, "inputs", got.told[1665].Value, val(1665))
}
