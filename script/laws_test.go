package script_test

import (
	"fmt"
	"slices"
	"testing"

	"cordon/api"
	"cordon/change"
	"cordon/script"
	"cordon/store"
	"cordon/syntax"
	"cordon/unparse"
	"cordon/value"
)

// firstCall is the first statement of a script, procedures in order, that calls a procedure.
func firstCall(s api.Script, name string) (api.Stmt, bool) {
	var all []place
	for _, p := range s.Procs {
		all = append(all, flat(nil, p.Body)...)
	}
	all = append(all, flat(nil, s.Body)...)
	i := slices.IndexFunc(all, func(of place) bool { return of.stmt.Kind == api.StCall && of.stmt.Table == name })
	if i < 0 {
		return api.Stmt{}, false
	}
	return all[i].stmt, true
}

// without is a program without one of its procedures, which no other one calls.
func without(p api.Program, i int) api.Program {
	p = copied(p)
	p.Procs = slices.Delete(p.Procs, i, i+1)
	for _, code := range p.Procs {
		eachOp(code.Body, func(op *api.Op) {
			if op.Kind == api.StCall && op.N > i {
				op.N--
			}
		})
	}
	return p
}

func eachOp(list []api.Op, visit func(op *api.Op)) {
	for i := range list {
		visit(&list[i])
		eachOp(list[i].Body, visit)
		eachOp(list[i].Else, visit)
	}
}

// P15.3: a procedure that no other one calls may be left out, and all others stay as they were; one that is called may not.
func TestLeftOut(t *testing.T) {
	ends := map[string]int{}
	for seed := range 2500 {
		m := makerOf(t, 700000+seed, 0)
		s := m.script()
		p, got := watched(t, m.catalog, s)
		if got != "OK 0" {
			t.Fatalf("seed %d: %s", seed, got)
		}
		for i, proc := range s.Procs {
			less := api.Script{Vars: s.Vars, Procs: slices.Delete(slices.Clone(s.Procs), i, i+1), Body: s.Body}
			call, is := firstCall(less, proc.Name)
			_, itself := firstCall(api.Script{Body: proc.Body}, proc.Name)
			ends[fmt.Sprint("called ", is, ", by itself ", itself)]++
			rest, got := watched(t, m.catalog, less)
			if is {
				check(t, seed, got, fmt.Sprint("ErrName ", call.At))
				continue
			}
			check(t, seed, got, "OK 0")
			check(t, seed, rest, without(p, i))
		}
		if t.Failed() {
			t.Fatalf("seed %d: %+v", seed, s)
		}
	}
	enough(t, ends, 40, "called false, by itself false", "called true, by itself false", "called false, by itself true", "called true, by itself true")
}

// P15.3, of one script after another till no procedure is left that may be left out.
func TestLeftOutInTurn(t *testing.T) {
	text := "proc a() { call b(); } proc b() { call c(1); } proc c(n int) { call c(:n); } proc d() { call a(); } skip;"
	s := scriptOf(t, text)
	for _, name := range []string{"d", "a", "b", "c"} {
		i := slices.IndexFunc(s.Procs, func(p api.Proc) bool { return p.Name == name })
		p, _ := watched(t, ours(), s)
		s.Procs = slices.Delete(slices.Clone(s.Procs), i, i+1)
		rest, got := watched(t, ours(), s)
		check(t, name, got, "OK 0")
		check(t, name, rest, without(p, i))
	}
	s = scriptOf(t, text)
	s.Procs = s.Procs[1:]
	_, got := watched(t, ours(), s)
	check(t, "a is called by d", got, fmt.Sprint("ErrName ", len("proc a() { call b(); } proc b() { call c(1); } proc c(n int) { call c(:n); } proc d() { ")))
}

// What is written (7) and read (6) again has the same program, but for the places of statements; and these are told of the same statement, where one is not right.
func TestReadAgain(t *testing.T) {
	ends := map[string]int{}
	for seed := range 1500 {
		m := makerOf(t, 800000+seed, 100)
		s := m.script()
		text, err := unparse.Script(s)
		if err != api.OK {
			t.Fatalf("seed %d: %v", seed, err)
		}
		again, _, err := syntax.Script(text)
		if err != api.OK {
			t.Fatalf("seed %d: %v", seed, err)
		}
		p, at, err := script.Compile(m.catalog, s)
		q, atAgain, errAgain := script.Compile(m.catalog, again)
		for _, of := range []api.Program{p, q} {
			for _, code := range of.Procs {
				eachOp(code.Body, func(op *api.Op) { op.At = 0 })
			}
		}
		check(t, seed, q, p)
		check(t, seed, errNames[errAgain], errNames[err])
		first, is := stmtAt(s, at)
		other, isAgain := stmtAt(again, atAgain)
		if err != api.OK && (is != isAgain || first.Kind != other.Kind || first.Table != other.Table || !slices.Equal(first.Names, other.Names)) {
			t.Errorf("seed %d: %+v, and %+v", seed, first, other)
		}
		ends[errNames[err]]++
		if t.Failed() {
			t.Fatal(text)
		}
	}
	enough(t, ends, 30, "OK", "ErrName", "ErrType", "ErrShape")
}

// bound are values of what a Code sees, each of its type, or null.
func (m *maker) bound(code api.Code) []api.Bound {
	vars := slices.Concat(code.Params, code.Vars)
	return numbered(len(vars), func(i int) api.Bound { return api.Bound{Name: vars[i].Name, Value: m.value(vars[i].Type)} })
}

func (m *maker) value(kind int) api.Value {
	return pick(m, value.Null(), one(value.Null(), value.Bool(m.often(50)), value.Int(m.Intn(4)), value.Text(pick(m, "", "a", "b")))[kind])
}

// What a script that is right does to tables is done by layer 14, which then refuses no place, no shape, and no type.
func TestDone(t *testing.T) {
	ends := map[string]int{}
	for seed := range 1500 {
		m := makerOf(t, 900000+seed, 0)
		p, got := watched(t, m.catalog, m.script())
		if got != "OK 0" {
			t.Fatalf("seed %d: %s", seed, got)
		}
		d := store.New(m.catalog)
		for i, r := range m.tables {
			for range 6 {
				d.Add(i, numbered(len(r.Cols), func(i int) api.Value { return m.value(r.Cols[i].Type) })) // one that may not be is left out
			}
		}
		for _, code := range p.Procs {
			bound := m.bound(code)
			eachOp(code.Body, func(op *api.Op) {
				err := api.OK
				switch op.Kind {
				case api.StInsert:
					err = change.Insert(d, bound, op.N, op.E)
				case api.StInsertQ:
					err = change.InsertRows(d, bound, op.N, op.Plan[0])
				case api.StUpdate:
					_, err = change.Update(d, bound, op.N, op.Cols, op.E, op.Where)
				case api.StDelete:
					_, err = change.Delete(d, bound, op.N, op.Where)
				default:
					return
				}
				switch err {
				case api.OK, api.ErrOver, api.ErrZero, api.ErrKey, api.ErrMany, api.ErrNull, api.ErrSingle, api.ErrRows:
					ends[fmt.Sprint(kindNames[op.Kind], " ", err == api.OK)]++
				default:
					t.Fatalf("seed %d: %v: %+v", seed, err, op)
				}
			})
		}
	}
	enough(t, ends, 30, "insert true", "insert false", "insertq true", "insertq false", "update true", "update false", "delete true")
}
