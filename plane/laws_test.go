package plane_test

import (
	"math"
	"math/big"
	"math/rand"
	"testing"

	"cordon/api"
	"cordon/plane"
)

// cutBig is a number without bounds, cut.
func cutBig(n *big.Int) int {
	if n.Cmp(big.NewInt(most)) > 0 {
		return most
	}
	return int(n.Int64())
}

func plus(a, b *big.Int) *big.Int  { return new(big.Int).Add(a, b) }
func times(a, b *big.Int) *big.Int { return new(big.Int).Mul(a, b) }

func bigParts(c complex128) (steps, rows *big.Int) {
	return big.NewInt(int64(real(c))), big.NewInt(int64(imag(c)))
}

// byHand is what the chapter's words say of two right costs, reckoned with numbers without bounds.
func byHand(name string, a, b complex128) complex128 {
	as, ar := bigParts(a)
	bs, br := bigParts(b)
	switch name {
	case "Then":
		return at(cutBig(plus(as, bs)), cutBig(br))
	case "Beside":
		return at(cutBig(plus(as, bs)), cutBig(plus(ar, br)))
	case "Nest":
		return at(cutBig(plus(as, times(ar, bs))), cutBig(times(ar, br)))
	}
	return at(max(cutBig(as), cutBig(bs)), max(cutBig(ar), cutBig(br)))
}

// partByHand is likewise what it says of Part.
func partByHand(a complex128, n, of int) complex128 {
	if of < 1 {
		of = 1
	}
	if of > 1000000 {
		of = 1000000
	}
	if n < 0 {
		n = 0
	}
	if n > of {
		n = of
	}
	steps, rows := bigParts(a)
	rows = times(rows, big.NewInt(int64(n)))
	return at(cutBig(steps), cutBig(rows.Div(rows, big.NewInt(int64(of)))))
}

func agree(t *testing.T, a, b complex128) {
	t.Helper()
	for _, r := range reckoners {
		if got, want := r.do(a, b), byHand(r.name, a, b); got != want {
			t.Errorf("%s(%v, %v) = %v, not %v", r.name, a, b, got, want)
		}
	}
}

// drawn is a right part: any size is as likely as another, so that many products are near the cut.
func drawn(source *rand.Rand) int {
	return min(source.Intn(1<<source.Intn(41)+1), most)
}

func TestAgainstNumbersWithoutBounds(t *testing.T) {
	costs := rightCosts()
	for _, a := range costs {
		for _, b := range costs {
			agree(t, a, b)
		}
	}
	source := rand.New(rand.NewSource(4))
	for range 50000 {
		agree(t, at(drawn(source), drawn(source)), at(drawn(source), drawn(source)))
	}
}

// Products that come next to MaxCost on either side.
func TestProductsNextToTheCut(t *testing.T) {
	source := rand.New(rand.NewSource(44))
	for range 20000 {
		r := 1 + drawn(source)%most
		s := most / r
		for _, d := range []int{-1, 0, 1} {
			if s+d < 0 || s+d > most {
				continue
			}
			for _, first := range []int{0, most % r, most%r + 1, most} {
				agree(t, at(min(first, most), r), at(s+d, s+d))
			}
		}
	}
}

func agreePart(t *testing.T, a complex128, n, of int) {
	t.Helper()
	if got, want := plane.Part(a, n, of), partByHand(a, n, of); got != want {
		t.Errorf("Part(%v, %d, %d) = %v, not %v", a, n, of, got, want)
	}
}

func TestPartAgainstNumbersWithoutBounds(t *testing.T) {
	numbers := []int{math.MinInt, math.MinInt + 1, -1000001, -1, 0, 1, 2, 3, 7, 999, 999999, 1000000, 1000001, most, math.MaxInt - 1, math.MaxInt}
	for _, a := range rightCosts() {
		for _, n := range numbers {
			for _, of := range numbers {
				agreePart(t, a, n, of)
			}
		}
	}
	source := rand.New(rand.NewSource(2))
	for range 50000 {
		agreePart(t, at(drawn(source), drawn(source)), source.Intn(1100000), source.Intn(1100000))
	}
}

// Parts that come out even, or nearly so: there a quotient that is not exact would be rounded down to one row too few, or up to one too many.
func TestEvenParts(t *testing.T) {
	for of := 1; of <= 60; of++ {
		for n := 0; n <= of; n++ {
			for rows := range 121 {
				agreePart(t, at(1, rows), n, of)
			}
		}
	}
	source := rand.New(rand.NewSource(22))
	for range 20000 {
		of := 1 + source.Intn(1000000)
		rows := source.Intn(most/of) * of
		for d := -1; d <= 1; d++ {
			agreePart(t, at(1, max(0, rows+d)), source.Intn(of+1), of)
		}
	}
}

// lawCosts are right costs, few enough for three of them to be put together in all ways.
func lawCosts() []complex128 {
	var out []complex128
	for _, s := range []int{0, 1, 2, root - 1, root + 1, most - 1, most} {
		for _, r := range []int{0, 1, 3, root - 1, root, root + 1, most - 1, most} {
			out = append(out, at(s, r))
		}
	}
	return out
}

// P4.4

func TestTurn(t *testing.T) {
	for _, a := range rightCosts() {
		for _, b := range rightCosts() {
			if plane.Beside(a, b) != plane.Beside(b, a) {
				t.Errorf("Beside does not turn at %v, %v", a, b)
			}
			if plane.Worst(a, b) != plane.Worst(b, a) {
				t.Errorf("Worst does not turn at %v, %v", a, b)
			}
		}
	}
}

func TestGroup(t *testing.T) {
	costs := lawCosts()
	for _, a := range costs {
		for _, b := range costs {
			for _, c := range costs {
				groups(t, a, b, c)
			}
		}
	}
	source := rand.New(rand.NewSource(3))
	draw := func() complex128 { return at(drawn(source), drawn(source)) }
	for range 50000 {
		groups(t, draw(), draw(), draw())
	}
}

func groups(t *testing.T, a, b, c complex128) {
	t.Helper()
	for _, r := range reckoners {
		if r.do(r.do(a, b), c) != r.do(a, r.do(b, c)) {
			t.Errorf("%s does not group at %v, %v, %v", r.name, a, b, c)
		}
	}
}

// P4.5

func TestMore(t *testing.T) {
	costs := lawCosts()
	for _, a := range costs {
		for _, more := range costs {
			if !plane.Within(a, more) {
				continue
			}
			for _, b := range costs {
				for _, r := range reckoners {
					noLess(t, r.name, r.do(a, b), r.do(more, b))
					noLess(t, r.name, r.do(b, a), r.do(b, more))
				}
			}
			for _, n := range []int{-1, 0, 1, 2, 3, 4} {
				noLess(t, "Part", plane.Part(a, n, 3), plane.Part(more, n, 3))
				noLess(t, "Part", plane.Part(a, n, 3), plane.Part(a, n+1, 3))
			}
		}
	}
}

func noLess(t *testing.T, what string, of, ofMore complex128) {
	t.Helper()
	if !plane.Right(of) || !plane.Within(of, ofMore) {
		t.Errorf("%s: %v, and of more %v", what, of, ofMore)
	}
}

// Whatever is given, what is reckoned is a cost that At makes, too.
func TestAnswersAreRight(t *testing.T) {
	all := append(rightCosts(), wrongCosts()...)
	for i, a := range all {
		for _, b := range []complex128{0, at(3, 7), at(most, most), all[len(all)-1-i], complex(math.NaN(), math.Inf(1))} {
			for _, r := range reckoners {
				for _, c := range []complex128{r.do(a, b), r.do(b, a)} {
					if back, err := plane.At(plane.Steps(c), plane.Rows(c)); back != c || err != api.OK {
						t.Errorf("%s of %v and %v = %v", r.name, a, b, c)
					}
				}
			}
		}
	}
}
