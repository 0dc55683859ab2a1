package rows_test

import (
	"cmp"
	"math/big"
	"math/rand"
	"reflect"
	"slices"
	"testing"

	"cordon/api"
	"cordon/rows"
	"cordon/value"
)

// compared is how two keys stand, by lists of numbers and texts: of a value that is not there the first number is smaller than that of each type.
func compared(a, b rows.Row, desc []bool) int {
	type place struct {
		there, kind, n int
		s              string
	}
	at := func(r rows.Row, i int) place {
		if i >= len(r) {
			return place{}
		}
		return place{1, r[i].Type, r[i].N, r[i].S}
	}
	for i := 0; i < len(a) || i < len(b); i++ {
		p, q := at(a, i), at(b, i)
		if i < len(desc) && desc[i] {
			p, q = q, p
		}
		if c := cmp.Or(cmp.Compare(p.there, q.there), cmp.Compare(p.kind, q.kind), cmp.Compare(p.n, q.n), cmp.Compare(p.s, q.s)); c != 0 {
			return c
		}
	}
	return 0
}

func holds(l []rows.Row, r rows.Row) bool {
	return slices.ContainsFunc(l, func(o rows.Row) bool { return slices.Equal(o, r) })
}

// kept is each row of l that may stay, once, by holding all rows against each other.
func kept(l []rows.Row, stays func(rows.Row) bool) []rows.Row {
	var out []rows.Row
	for _, r := range l {
		if !holds(out, r) && stays(r) {
			out = append(out, r)
		}
	}
	return out
}

// matched is what trying all pairs tells.
func matched(a, b []rows.Row, i, j int) [][2]int {
	var out [][2]int
	for p, x := range a {
		for q, y := range b {
			if i < 0 || j < 0 || i >= len(x) || j >= len(y) {
				continue
			}
			if x[i] == y[j] && x[i] != value.Null() {
				out = append(out, [2]int{p, q})
			}
		}
	}
	return out
}

func samePairs(a, b [][2]int) bool { return slices.Equal(a, b) }

// grouped is the groups of keys, by holding all keys against each other.
func grouped(keys []rows.Row) [][]int {
	var out [][]int
	for i := range keys {
		g := slices.IndexFunc(out, func(g []int) bool { return slices.Equal(keys[g[0]], keys[i]) })
		if g < 0 {
			g, out = len(out), append(out, nil)
		}
		out[g] = append(out[g], i)
	}
	return out
}

// folded is what values come to, with sums of any size.
func folded(fn string, l []api.Value) (api.Value, api.Errno) {
	some := slices.DeleteFunc(slices.Clone(l), func(v api.Value) bool { return v == api.Value{} })
	if fn == "count" {
		return api.Value{Type: api.TyInt, N: len(some)}, api.OK
	}
	if len(some) == 0 {
		return api.Value{}, api.OK
	}
	order := func(a, b api.Value) int { return compared(rows.Row{a}, rows.Row{b}, nil) }
	switch fn {
	case "min":
		return slices.MinFunc(some, order), api.OK
	case "max":
		return slices.MaxFunc(some, order), api.OK
	}
	total := new(big.Int)
	for _, v := range some {
		if v.Type != api.TyInt {
			return api.Value{}, api.ErrType
		}
		if total.Add(total, big.NewInt(int64(v.N))); !total.IsInt64() {
			return api.Value{}, api.ErrOver
		}
	}
	return api.Value{Type: api.TyInt, N: int(total.Int64())}, api.OK
}

// maker makes lists of rows, of few values so that some are the same.
type maker struct{ *rand.Rand }

func (m maker) value() api.Value {
	return val([]any{nil, nil, false, true, 0, 1, 1, 2, -1, most, least, "", "a", "a", "ab", "b", "\x00", "\xff", "1"}[m.Intn(19)])
}

func (m maker) row(wide int) rows.Row {
	var out rows.Row
	for range m.Intn(wide + 1) {
		out = append(out, m.value())
	}
	return out
}

func (m maker) list() []rows.Row {
	var out []rows.Row
	wide := m.Intn(4)
	for range m.Intn(12) {
		out = append(out, m.row(wide))
	}
	return out
}

func (m maker) desc() []bool {
	var out []bool
	for range m.Intn(5) {
		out = append(out, m.Intn(2) == 0)
	}
	return out
}

func makers(n int) func(func(int, maker) bool) {
	return func(yield func(int, maker) bool) {
		for i := range n {
			if !yield(i, maker{rand.New(rand.NewSource(int64(i)))}) {
				return
			}
		}
	}
}

// P11.6

func TestSets(t *testing.T) {
	for i, m := range makers(3000) {
		a, b := m.list(), m.list()
		once := rows.Distinct(a)
		less, common, both := rows.Except(a, b), rows.Intersect(a, b), rows.Union(a, b)
		check(t, "distinct", once, kept(a, func(rows.Row) bool { return true }))
		check(t, "except", less, kept(a, func(r rows.Row) bool { return !holds(b, r) }))
		check(t, "intersect", common, kept(a, func(r rows.Row) bool { return holds(b, r) }))
		check(t, "union", both, kept(slices.Concat(a, b), func(rows.Row) bool { return true }))
		if len(less)+len(common) != len(once) {
			t.Errorf("%d: %d and %d of %d", i, len(less), len(common), len(once))
		}
		for _, r := range once {
			if holds(less, r) == holds(common, r) {
				t.Errorf("%d: %s stands in both, or in neither", i, told(list(r)))
			}
		}
		for _, r := range slices.Concat(a, b) {
			if !holds(both, r) {
				t.Errorf("%d: the union has no %s", i, told(list(r)))
			}
		}
		check(t, "distinct again", rows.Distinct(once), once)
	}
}

// P11.7

func TestOrder(t *testing.T) {
	for i, m := range makers(3000) {
		l, keys, desc := m.list(), m.list(), m.desc()
		for n := range l { // so that the key of a sorted row is known
			l[n] = append(l[n], val(n))
		}
		keyOf := func(r rows.Row) rows.Row {
			if n := r[len(r)-1].N; n < len(keys) {
				return keys[n]
			}
			return nil
		}
		got := rows.Sort(l, keys, desc)
		want := slices.Clone(l)
		for n := range want {
			for j := n; j > 0 && compared(keyOf(want[j-1]), keyOf(want[j]), desc) > 0; j-- {
				want[j-1], want[j] = want[j], want[j-1]
			}
		}
		check(t, "sort", got, want)
		if len(got) != len(l) {
			t.Fatalf("%d: %d rows of %d", i, len(got), len(l))
		}
		var moved []rows.Row
		for n, r := range got {
			if !holds(l, r) {
				t.Errorf("%d: %s came from nowhere", i, told(list(r)))
			}
			if n > 0 && compared(keyOf(got[n-1]), keyOf(r), desc) > 0 {
				t.Errorf("%d: not in order at %d", i, n)
			}
			moved = append(moved, keyOf(r))
		}
		check(t, "sorted again", rows.Sort(got, moved, desc), got)
	}
}

// By itself a list with rows many times keeps each as often.
func TestOrderKeepsAll(t *testing.T) {
	for i, m := range makers(1000) {
		l, desc := m.list(), m.desc()
		got := rows.Sort(l, l, desc)
		for _, r := range l {
			count := func(in []rows.Row) (n int) {
				for _, o := range in {
					if slices.Equal(o, r) {
						n++
					}
				}
				return n
			}
			if count(l) != count(got) || len(l) != len(got) {
				t.Errorf("%d: %s, not as often", i, told(list(r)))
			}
		}
		check(t, "sorted again", rows.Sort(got, got, desc), got)
	}
}

// P11.8

func TestJoins(t *testing.T) {
	found := 0
	for i, m := range makers(3000) {
		a, b := m.list(), m.list()
		for x := -1; x < 4; x++ {
			for y := -1; y < 4; y++ {
				got, want := rows.Match(a, b, x, y), matched(a, b, x, y)
				if !samePairs(got, want) {
					t.Errorf("%d at %d, %d: %v, not %v", i, x, y, got, want)
				}
				found += len(want)
			}
		}
		if got := rows.Groups(a); !reflect.DeepEqual(got, grouped(a)) {
			t.Errorf("%d: groups %v of %s", i, got, told(a))
		}
	}
	if found == 0 {
		t.Error("nothing was matched")
	}
}

func TestFolds(t *testing.T) {
	ends := map[api.Errno]int{}
	for i, m := range makers(3000) {
		l := m.row(8)
		if i%2 == 0 {
			l = nil
			for range m.Intn(6) {
				l = append(l, val([]any{nil, 1, -1, most, least, most / 2, 1 << 62, 0}[m.Intn(8)]))
			}
		}
		for _, fn := range []string{"count", "sum", "min", "max"} {
			got, err := rows.Fold(fn, l)
			want, wantErr := folded(fn, l)
			if got != want || err != wantErr {
				t.Errorf("%s of %s: %v, %v", fn, told(list(l)), got, err)
			}
			ends[err]++
		}
	}
	if ends[api.OK] == 0 || ends[api.ErrType] == 0 || ends[api.ErrOver] == 0 {
		t.Errorf("ends: %v", ends)
	}
}
