package audit_test

import (
	"cmp"
	"reflect"
	"slices"
	"testing"

	"cordon/api"
	"cordon/audit"
	"cordon/schema"
)

// piece is the memory of a list, with the room behind it.
type piece struct{ from, to uintptr }

func pieces(v reflect.Value) []piece {
	var out []piece
	switch v.Kind() {
	case reflect.Struct:
		for i := range v.NumField() {
			out = append(out, pieces(v.Field(i))...)
		}
	case reflect.Slice:
		if size := uintptr(v.Cap()) * v.Type().Elem().Size(); size > 0 {
			out = append(out, piece{v.Pointer(), v.Pointer() + size})
		}
		for i := range v.Len() {
			out = append(out, pieces(v.Index(i))...)
		}
	}
	return out
}

// ownMemory tells whether no two lists in all that is handed to it share memory.
func ownMemory(all ...any) bool {
	var of []piece
	for _, x := range all {
		of = append(of, pieces(reflect.ValueOf(x))...)
	}
	slices.SortFunc(of, func(a, b piece) int { return cmp.Compare(a.from, b.from) })
	for i := range of {
		if i > 0 && of[i-1].to > of[i].from {
			return false
		}
	}
	return true
}

// spoil changes all members of a list where they stand, with the room behind them.
func spoil[T any](l []T, with T) {
	for i := range l[:cap(l)] {
		l[:cap(l)][i] = with
	}
}

func spoilRows(l [][]api.Value) {
	for _, row := range l {
		spoil(row, api.Value{Type: 9, N: 9, S: "spoilt"})
	}
	spoil(l, nil)
}

// catalogTold is all that a catalog is asked for.
func catalogTold(c *schema.Catalog) []any {
	return one[any](c.Tables(), c.Channels(), c.Principals(), c.Limit(), c.Lattice().Levels())
}

// Rule 3: lists of grants and names are the caller's own, and the catalog stays as it was, however they are changed.
func TestLooksOwn(t *testing.T) {
	for _, c := range ours() {
		was := catalogTold(c)
		for _, p := range c.Principals() {
			reads, hears, who := audit.Reads(c, p.Name), audit.Hears(c, p.Name), audit.Who(c, p.Level)
			again, heard, whose := audit.Reads(c, p.Name), audit.Hears(c, p.Name), audit.Who(c, p.Level)
			checkIs(t, "memory of its own", ownMemory(reads, hears, who, again, heard, whose), true)
			told := grantsTold(reads) + "," + namesTold(hears) + "," + namesTold(who)
			spoil(reads, api.Grant{Table: "spoilt", Column: "spoilt"})
			spoil(hears, "spoilt")
			spoil(who, "spoilt")
			check(t, "others", grantsTold(again)+","+namesTold(heard)+","+namesTold(whose), told)
			check(t, "anew", grantsTold(audit.Reads(c, p.Name))+","+namesTold(audit.Hears(c, p.Name))+","+namesTold(audit.Who(c, p.Level)), told)
			checkIs(t, "the catalog", reflect.DeepEqual(catalogTold(c), was), true)
		}
	}
}

// Rules 3 and 7: rows that are answered share memory with nothing: not with the store, the plan, another answer, nor with one another.
func TestAskOwn(t *testing.T) {
	for _, c := range ours() {
		d := ourStore(c)
		was := storeTold(d)
		for _, x := range asked() {
			p := planOf(c, x.query)
			got, err := audit.Ask(d, "zoe", p)
			again, same := audit.Ask(d, "zoe", p)
			told := answerTold(got, err)
			checkErr(t, x.query, same, err)
			checkIs(t, x.query, ownMemory(got, again, p), true)
			spoilRows(got)
			check(t, "the store", storeTold(d), was)
			check(t, "another one", answerTold(again, err), told)
			check(t, "anew", askedTold(d, "zoe", p), told)
			checkIs(t, "the plan", reflect.DeepEqual(p, planOf(c, x.query)), true)
			for i := range c.Tables() {
				d.Put(i, nil)
			}
			check(t, "when the store is changed", answerTold(again, err), told)
			d = ourStore(c)
		}
	}
}

// A row that stands in an answer several times is a row of its own each time.
func TestAskOwnRows(t *testing.T) {
	for _, c := range ours() {
		d := ourStore(c)
		for _, text := range []string{"select i as x from t union all select i as x from t", "select n as x from m visible order by x", "select t.i as x, m.n as y from t join m visible on true", "select distinct n as x from m visible limit 2", "select i as x from t except select 1 as x"} {
			got, err := audit.Ask(d, "ann", planOf(c, text))
			checkErr(t, text, err, api.OK)
			checkIs(t, text, len(got) > 0 && ownMemory(got), true)
			for i := range got {
				others := rowsTold(append(slices.Clone(got[:i]), got[i+1:]...))
				spoil(got[i], api.Value{Type: api.TyInt, N: 99})
				check(t, text, rowsTold(append(slices.Clone(got[:i]), got[i+1:]...)), others)
			}
		}
	}
}

// Rules 2, 3 and 6: no call changes what it is handed; each answers the same again, whatever is asked between, and refused.
func TestNothingChanged(t *testing.T) {
	for _, c := range ours() {
		d := ourStore(c)
		rows, was := storeTold(d), catalogTold(c)
		people := append(strangers(), "ann", "abe", "bob", "cyd", "dan", "note", "zoe", "eve")
		all := func() []string {
			var out []string
			for _, who := range people {
				out = append(out, grantsTold(audit.Reads(c, who)), namesTold(audit.Hears(c, who)))
				for _, x := range asked() {
					p := planOf(c, x.query)
					out = append(out, audit.May(c, who, p).Error(), askedTold(d, who, p))
					checkIs(t, "the plan", reflect.DeepEqual(p, planOf(c, x.query)), true)
				}
			}
			for level := -2; level < 6; level++ {
				out = append(out, namesTold(audit.Who(c, level)))
			}
			return out
		}
		first := all()
		slices.Reverse(people)
		all()
		slices.Reverse(people)
		checkIs(t, "again", slices.Equal(all(), first), true)
		check(t, "the store", storeTold(d), rows)
		checkIs(t, "the store itself", d.Same(ourStore(c)), true)
		checkIs(t, "the catalog", reflect.DeepEqual(catalogTold(c), was), true)
	}
}
