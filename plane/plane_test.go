package plane_test

import (
	"math"
	"slices"
	"testing"

	"cordon/api"
	"cordon/plane"
)

const most = api.MaxCost

// root is the number whose square is MaxCost: products of it and of its neighbours are just cut, or just not.
const root = 1 << 20

// rightParts are parts that may be, with the edges that the chapter names.
var rightParts = []int{0, 1, 2, 3, 7, 1000, root - 1, root, root + 1, most/2 - 1, most / 2, most/2 + 1, most - 2, most - 1, most}

// wrongParts are parts that may not be.
var wrongParts = []float64{
	-1, -2, -most, -most - 1, math.MinInt64, -math.MaxFloat64,
	0.5, 1.5, -0.5, most - 0.5, most - 1.0/4096, math.SmallestNonzeroFloat64, -math.SmallestNonzeroFloat64,
	most + 0.5, most + 1.0/4096, most + 1, 2 * most, 1 << 53, math.MaxInt64, math.MaxUint64, 1 << 80, math.MaxFloat64,
	math.NaN(), math.Inf(1), math.Inf(-1),
}

// at is the cost of parts that may be.
func at(steps, rows int) complex128 { return complex(float64(steps), float64(rows)) }

func rightCosts() []complex128 {
	var out []complex128
	for _, s := range rightParts {
		for _, r := range rightParts {
			out = append(out, at(s, r))
		}
	}
	return out
}

// wrongCosts are costs of which one part, or both, may not be.
func wrongCosts() []complex128 {
	var out []complex128
	for _, w := range wrongParts {
		for _, p := range rightParts {
			out = append(out, complex(w, float64(p)), complex(float64(p), w))
		}
		for _, v := range wrongParts {
			out = append(out, complex(w, v))
		}
	}
	return out
}

// reckoner is a call that makes one cost of two.
type reckoner struct {
	name string
	do   func(a, b complex128) complex128
}

var reckoners = []reckoner{{"Then", plane.Then}, {"Beside", plane.Beside}, {"Nest", plane.Nest}, {"Worst", plane.Worst}}

// P4.1

func TestAt(t *testing.T) {
	for _, s := range rightParts {
		for _, r := range rightParts {
			c, err := plane.At(s, r)
			if c != at(s, r) || err != api.OK {
				t.Errorf("At(%d, %d) = %v, %v", s, r, c, err)
			}
			if !plane.Right(c) || plane.Steps(c) != s || plane.Rows(c) != r {
				t.Errorf("At(%d, %d): Right, Steps, Rows = %v, %d, %d", s, r, plane.Right(c), plane.Steps(c), plane.Rows(c))
			}
		}
	}
}

func TestAtRefused(t *testing.T) {
	wrong := []int{math.MinInt, math.MinInt + 1, -most - 1, -most, -2, -1, most + 1, most + 2, 2 * most, 1<<53 + 1, math.MaxInt - 1, math.MaxInt}
	refused := func(s, r int) {
		t.Helper()
		if c, err := plane.At(s, r); c != 0 || err != api.ErrArg {
			t.Errorf("At(%d, %d) = %v, %v", s, r, c, err)
		}
	}
	for _, w := range wrong {
		for _, p := range rightParts {
			refused(w, p)
			refused(p, w)
		}
		for _, v := range wrong {
			refused(w, v)
		}
	}
}

func TestRight(t *testing.T) {
	for _, c := range rightCosts() {
		if !plane.Right(c) {
			t.Errorf("%v is not right", c)
		}
	}
	for _, c := range wrongCosts() {
		if plane.Right(c) {
			t.Errorf("%v is right", c)
		}
		if plane.Steps(c) != 0 || plane.Rows(c) != 0 {
			t.Errorf("%v: Steps, Rows = %d, %d", c, plane.Steps(c), plane.Rows(c))
		}
	}
}

// P4.2

func TestExample(t *testing.T) {
	a, _ := plane.At(10, 5)
	b, _ := plane.At(2, 3)
	for _, x := range []struct {
		what        string
		got         complex128
		steps, rows int
	}{
		{"Nest", plane.Nest(a, b), 20, 15},
		{"Then", plane.Then(a, b), 12, 3},
		{"Then, turned", plane.Then(b, a), 12, 5},
		{"Nest, turned", plane.Nest(b, a), 32, 15},
		{"Beside", plane.Beside(a, b), 12, 8},
		{"Worst", plane.Worst(a, b), 10, 5},
		{"Worst of each", plane.Worst(at(10, 3), at(2, 5)), 10, 5},
		{"Part", plane.Part(a, 2, 3), 10, 3},
	} {
		if x.got != at(x.steps, x.rows) || plane.Steps(x.got) != x.steps || plane.Rows(x.got) != x.rows {
			t.Errorf("%s = %v, not %d steps, %d rows", x.what, x.got, x.steps, x.rows)
		}
	}
}

func TestCut(t *testing.T) {
	all := at(most, most)
	for _, x := range []struct {
		what      string
		got, want complex128
	}{
		{"Then, just not cut", plane.Then(at(most-1, 9), at(1, most)), all},
		{"Then, one below", plane.Then(at(most-2, 9), at(1, most-1)), at(most-1, most-1)},
		{"Then, just cut", plane.Then(at(most, most), at(1, 0)), at(most, 0)},
		{"Then of the greatest", plane.Then(all, all), all},
		{"Beside, just not cut", plane.Beside(at(most-1, most/2), at(1, most/2)), all},
		{"Beside, one below", plane.Beside(at(most-2, most/2), at(1, most/2-1)), at(most-1, most-1)},
		{"Beside, steps alone cut", plane.Beside(at(most, 1), at(1, 1)), at(most, 2)},
		{"Beside, rows alone cut", plane.Beside(at(1, most), at(1, 1)), at(2, most)},
		{"Beside of the greatest", plane.Beside(all, all), all},
		{"Nest, just not cut", plane.Nest(at(0, root), at(root, root)), all},
		{"Nest, just not cut with steps", plane.Nest(at(root, root), at(root-1, root)), all},
		{"Nest, one below", plane.Nest(at(root-1, root), at(root-1, 1)), at(most-1, root)},
		{"Nest, rows and steps one below", plane.Nest(at(0, root-1), at(root+1, root+1)), at(most-1, most-1)},
		{"Nest, just cut", plane.Nest(at(1, root), at(root, 1)), at(most, root)},
		{"Nest, rows alone cut", plane.Nest(at(1, root+1), at(2, root)), at(2*root+3, most)},
		{"Nest of no rows", plane.Nest(at(7, 0), all), at(7, 0)},
		{"Nest of nothing in all", plane.Nest(at(7, most), at(0, 0)), at(7, 0)},
		{"Nest of the greatest", plane.Nest(all, all), all},
		{"Worst of the greatest", plane.Worst(at(most, 0), at(0, most)), all},
		{"Part of the greatest", plane.Part(all, 999999, 1000000), at(most, most/1000000*999999+most%1000000*999999/1000000)},
	} {
		if x.got != x.want {
			t.Errorf("%s: %v, not %v", x.what, x.got, x.want)
		}
	}
}

func TestPart(t *testing.T) {
	for _, x := range []struct{ rows, n, of, want int }{
		{10, 0, 3, 0}, {10, 1, 3, 3}, {10, 2, 3, 6}, {10, 3, 3, 10}, {10, 4, 3, 10}, {10, -1, 3, 0},
		{9, 1, 10, 0}, {10, 1, 10, 1}, {19, 1, 10, 1}, {0, 1, 1, 0},
		// of below 1 is 1: n is held against that.
		{10, 1, 1, 10}, {10, 1, 0, 10}, {10, 5, 0, 10}, {10, 0, 0, 0}, {10, -1, -1, 0}, {10, 1, -3, 10}, {10, 1, math.MinInt, 10},
		// of above 1000000 is that: n is held against that, and divided by that.
		{1000000, 1, 1000000, 1}, {999999, 1, 1000000, 0}, {1000000, 1, 1000001, 1}, {1000000, 1000000, 1000001, 1000000},
		{1000000, 1000001, 1000001, 1000000}, {1000000, 999999, 2000000, 999999}, {1000000, 3, math.MaxInt, 3},
		{most, 1, 2, most / 2}, {most - 1, 1, 2, most/2 - 1}, {most, 1000000, 1000000, most}, {most - 1, 1000000, 1000000, most - 1},
		{most, math.MaxInt, math.MaxInt, most}, {most, math.MaxInt, math.MinInt, most}, {most, math.MinInt, math.MaxInt, 0}, {most, math.MinInt, math.MinInt, 0},
	} {
		for _, steps := range rightParts {
			if got := plane.Part(at(steps, x.rows), x.n, x.of); got != at(steps, x.want) {
				t.Errorf("Part(%v, %d, %d) = %v, not %d rows", at(steps, x.rows), x.n, x.of, got, x.want)
			}
		}
	}
}

func TestWrongCostsComeToNothing(t *testing.T) {
	wrong, right := wrongCosts(), rightCosts()
	for _, r := range reckoners {
		for i, w := range wrong {
			for _, c := range []complex128{right[i%len(right)], at(10, 5), at(most, most), 0, w, wrong[len(wrong)-1-i]} {
				if x, y := r.do(w, c), r.do(c, w); x != 0 || y != 0 {
					t.Errorf("%s of %v and %v = %v, %v turned", r.name, w, c, x, y)
				}
			}
		}
	}
	for _, w := range wrong {
		for _, n := range []int{math.MinInt, -1, 0, 1, 3, 1000000, math.MaxInt} {
			for _, of := range []int{math.MinInt, -1, 0, 1, 3, 1000000, math.MaxInt} {
				if x := plane.Part(w, n, of); x != 0 {
					t.Errorf("Part(%v, %d, %d) = %v", w, n, of, x)
				}
			}
		}
	}
}

// A zero with a sign is 0, and none is handed out.
func TestSignedZero(t *testing.T) {
	minus := math.Copysign(0, -1)
	for _, a := range []complex128{complex(minus, minus), complex(minus, 0), complex(0, minus), complex(minus, 3), complex(3, minus)} {
		plain := at(int(real(a)), int(imag(a)))
		if !plane.Right(a) || plane.Steps(a) != int(real(plain)) || plane.Rows(a) != int(imag(plain)) || !plane.Within(a, plain) || !plane.Within(plain, a) {
			t.Errorf("%v is not taken as %v", a, plain)
		}
		for _, b := range []complex128{0, a, complex(minus, minus), at(2, 0), at(2, 3)} {
			for _, r := range reckoners {
				unsigned(t, r.name, r.do(a, b), r.do(plain, b))
				unsigned(t, r.name, r.do(b, a), r.do(b, plain))
			}
		}
		for n := range 3 {
			unsigned(t, "Part", plane.Part(a, n, 2), plane.Part(plain, n, 2))
		}
	}
	if got := plane.Least([]complex128{at(0, 0), complex(minus, minus)}); got != 0 {
		t.Errorf("Least of two zeros = %d", got)
	}
}

func unsigned(t *testing.T, what string, got, want complex128) {
	t.Helper()
	if got != want || math.Signbit(real(got)) || math.Signbit(imag(got)) {
		t.Errorf("%s: %v, not %v", what, got, want)
	}
}

// P4.3

func TestWithin(t *testing.T) {
	for _, a := range rightCosts() {
		for _, b := range rightCosts() {
			want := plane.Steps(a) <= plane.Steps(b) && plane.Rows(a) <= plane.Rows(b)
			if plane.Within(a, b) != want {
				t.Errorf("Within(%v, %v) = %v", a, b, !want)
			}
		}
	}
	if !plane.Within(at(2, 3), at(2, 3)) || plane.Within(at(3, 3), at(2, 3)) || plane.Within(at(2, 4), at(2, 3)) || plane.Within(at(0, 4), at(9, 3)) {
		t.Error("Within looks at one part alone")
	}
	wrong := wrongCosts()
	for i, w := range wrong {
		for _, c := range []complex128{0, at(10, 5), at(most, most), w, wrong[len(wrong)-1-i]} {
			if plane.Within(w, c) || plane.Within(c, w) {
				t.Errorf("Within(%v, %v), or turned", w, c)
			}
		}
	}
}

func TestLeast(t *testing.T) {
	nan, inf := math.NaN(), math.Inf(1)
	for _, x := range []struct {
		l    []complex128
		want int
	}{
		{nil, -1},
		{[]complex128{}, -1},
		{[]complex128{at(most, most)}, 0},
		{[]complex128{0}, 0},
		{[]complex128{at(2, 9), at(1, most), at(3, 0)}, 1},
		{[]complex128{at(1, 2), at(1, 1), at(1, 3)}, 1},
		{[]complex128{at(1, 1), at(0, 2), at(0, 1), at(0, 1), at(0, 2)}, 2},
		{[]complex128{at(4, 4), at(4, 4), at(4, 4)}, 0},
		{[]complex128{at(most, most), at(most, most-1)}, 1},
		{[]complex128{at(most, 0), at(most-1, most)}, 1},
		{[]complex128{complex(nan, 0), complex(0, nan), complex(-1, 0), complex(0, -inf), complex(0.5, 0)}, -1},
		{[]complex128{complex(nan, nan), at(5, 5), complex(-1, -1), complex(4, nan), at(5, 4), complex(5, 3.5), complex(inf, 0)}, 4},
		{[]complex128{complex(0, most+1), at(most, most)}, 1},
	} {
		given := slices.Clone(x.l)
		if got := plane.Least(x.l); got != x.want {
			t.Errorf("Least(%v) = %d, not %d", x.l, got, x.want)
		}
		for i, c := range given {
			if c != x.l[i] && c == c {
				t.Errorf("Least changed %v to %v", given, x.l)
			}
		}
	}
}
