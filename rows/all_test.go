package rows_test

import (
	"reflect"
	"slices"
	"testing"

	"cordon/api"
	"cordon/rows"
)

// call is one call of the layer, with what it is handed; not all of it counts for all of them.
type call func(a, b []rows.Row, desc []bool, i, j int, fn string) any

func calls() map[string]call {
	return map[string]call{
		"Distinct":  func(a, _ []rows.Row, _ []bool, _, _ int, _ string) any { return rows.Distinct(a) },
		"Union":     func(a, b []rows.Row, _ []bool, _, _ int, _ string) any { return rows.Union(a, b) },
		"Except":    func(a, b []rows.Row, _ []bool, _, _ int, _ string) any { return rows.Except(a, b) },
		"Intersect": func(a, b []rows.Row, _ []bool, _, _ int, _ string) any { return rows.Intersect(a, b) },
		"Sort":      func(a, b []rows.Row, desc []bool, _, _ int, _ string) any { return rows.Sort(a, b, desc) },
		"Groups":    func(a, _ []rows.Row, _ []bool, _, _ int, _ string) any { return rows.Groups(a) },
		"Match":     func(a, b []rows.Row, _ []bool, i, j int, _ string) any { return rows.Match(a, b, i, j) },
		"Fold": func(a, _ []rows.Row, _ []bool, _, _ int, fn string) any {
			var l []any
			for _, r := range a {
				v, err := rows.Fold(fn, r)
				l = append(l, v, err)
			}
			return l
		},
	}
}

// roomy is a copy of a list with room behind it and behind each row, so that what is put there would be seen.
func roomy(l []rows.Row) []rows.Row {
	out := make([]rows.Row, 0, len(l)+2)
	for _, r := range l {
		out = append(out, append(make(rows.Row, 0, len(r)+2), r...))
	}
	return out
}

func room(l []rows.Row) []rows.Row {
	var out []rows.Row
	for _, r := range l[:cap(l)] {
		out = append(out, r[:cap(r)])
	}
	return out
}

// held makes a call twice and looks whether it answers the same, in memory of its own, and leaves what it was handed.
func held(t *testing.T, name string, c call, a, b []rows.Row, desc []bool, i, j int, fn string) {
	t.Helper()
	a, b, desc = roomy(a), roomy(b), append(make([]bool, 0, len(desc)+2), desc...)
	wasA, wasB, wasDesc := copied(room(a)), copied(room(b)), slices.Clone(desc[:cap(desc)])
	first := c(a, b, desc, i, j, fn)
	second := c(a, b, desc, i, j, fn)
	if !reflect.DeepEqual(first, second) {
		t.Errorf("%s of %s and %s: %v and then %v", name, told(a), told(b), first, second)
	}
	if !ownMemory(first, a, b, desc, second) {
		t.Errorf("%s of %s and %s shares memory", name, told(a), told(b))
	}
	if !same(room(a), wasA) || !same(room(b), wasB) || !slices.Equal(desc[:cap(desc)], wasDesc) {
		t.Errorf("%s of %s and %s changed them", name, told(a), told(b))
	}
}

// P1, P2

func TestEveryCallAnswers(t *testing.T) {
	lists := [][]rows.Row{nil, {}, {nil}, list(row(), row()), unlike(), thrice(unlike()), odd(), thrice(odd()), append(unlike(), odd()...), list(oddValues())}
	for name, c := range calls() {
		for _, a := range lists {
			for _, b := range lists {
				for _, desc := range [][]bool{nil, {true}, {false, true, true, false}} {
					held(t, name, c, a, b, desc, 0, 1, "sum")
				}
			}
			for _, fn := range []string{"count", "min", "max", "sum", ""} {
				held(t, name, c, a, a, nil, -1, api.MaxCols, fn)
			}
		}
	}
}

func TestEveryCallKeepsWhatItIsHanded(t *testing.T) {
	fns := []string{"count", "sum", "min", "max", "none"}
	for i, m := range makers(500) {
		a, b, desc := m.list(), m.list(), m.desc()
		for name, c := range calls() {
			held(t, name, c, a, b, desc, m.Intn(5)-1, m.Intn(5)-1, fns[i%len(fns)])
			held(t, name, c, a, a, desc, 0, 0, fns[i%len(fns)])
		}
	}
}

// One list that is handed in twice, or that has one row's memory twice, is not shared by what is handed out.
func TestRowsThatShareMemory(t *testing.T) {
	r := row(1, 2, 3)
	l := list(r, r[:2], r[1:], r, r[:1])
	for name, c := range calls() {
		if got := c(l, l, nil, 0, 0, "sum"); !ownMemory(got, l) {
			t.Errorf("%s shares memory: %v", name, got)
		}
	}
	if !slices.Equal(r, row(1, 2, 3)) {
		t.Errorf("changed: %s", told(list(r)))
	}
}

// Rows of which nothing is promised but that calls end are told apart all the same.
func TestOddRowsAreToldApart(t *testing.T) {
	all := append(odd(), unlike()...)
	check(t, "distinct", rows.Distinct(thrice(all)), all)
	check(t, "except", rows.Except(thrice(all), unlike()), odd())
	check(t, "intersect", rows.Intersect(thrice(all), odd()), odd())
	if got := len(rows.Groups(thrice(all))); got != len(all) {
		t.Errorf("%d groups of %d", got, len(all))
	}
}

// What was refused leaves nothing behind.
func TestRefusalIsNotRemembered(t *testing.T) {
	for _, l := range []rows.Row{nil, row(1, 2), row(nil), row("a")} {
		for _, fn := range []string{"count", "min", "max", "sum"} {
			before, errBefore := rows.Fold(fn, l)
			rows.Fold("none", l)
			rows.Fold("sum", row(most, 1))
			rows.Fold("sum", row("a"))
			if after, errAfter := rows.Fold(fn, l); after != before || errAfter != errBefore {
				t.Errorf("%s of %s: %v, %v and then %v, %v", fn, told(list(l)), before, errBefore, after, errAfter)
			}
		}
	}
}

func TestSignatures(t *testing.T) {
	var _ []api.Value = rows.Row{}
	var _ func([]rows.Row) []rows.Row = rows.Distinct
	var _ func(a, b []rows.Row) []rows.Row = rows.Union
	var _ func(a, b []rows.Row) []rows.Row = rows.Except
	var _ func(a, b []rows.Row) []rows.Row = rows.Intersect
	var _ func(l, keys []rows.Row, desc []bool) []rows.Row = rows.Sort
	var _ func([]rows.Row) [][]int = rows.Groups
	var _ func(a, b []rows.Row, i, j int) [][2]int = rows.Match
	var _ func(string, []api.Value) (api.Value, api.Errno) = rows.Fold
}
