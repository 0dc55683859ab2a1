package weigh_test

import (
	"fmt"
	"reflect"
	"slices"
	"testing"

	"cordon/api"
	"cordon/plane"
	"cordon/weigh"
)

// P21.1, of plans and sizes made at random: what the second way tells. What is handed in stays as it is.
func TestMade(t *testing.T) {
	got := map[string]int{}
	for seed := range 20000 {
		m := makerOf(seed)
		p, sizes := m.top(), m.sizes()
		again := makerOf(seed) // makes the same once more
		q, same := again.top(), again.sizes()
		want := model{sizes}.cost(p)
		if is := weighed(sizes, p); is != want {
			t.Fatalf("%d: %v, not %v", seed, is, want)
		}
		if !reflect.DeepEqual(p, q) || !slices.Equal(sizes, same) {
			t.Fatalf("%d: changed", seed)
		}
		got[sort(want)]++
		kindsIn(p, func(kind int) { got[fmt.Sprint(kind)]++ })
	}
	enough(t, got, 1000, "nothing", "cut in neither")
	enough(t, got, 200, "cut in steps", "cut in both", "-1", "0", "16", fmt.Sprint(least), fmt.Sprint(greatest))
	for _, kind := range slices.Concat(leaves, single, double) {
		enough(t, got, 1000, fmt.Sprint(kind))
	}
}

func sort(a at) string {
	switch {
	case a == at{}:
		return "nothing"
	case a == at{most, most}:
		return "cut in both"
	case a.steps == most:
		return "cut in steps"
	}
	return "cut in neither"
}

// more are sizes none of which is below its own, and perhaps of more tables.
func (m *maker) more(sizes []int) []int {
	out := slices.Clone(sizes)
	for i, n := range out {
		switch m.Intn(3) {
		case 0:
			out[i] = max(n, m.size())
		case 1:
			out[i] = n + min(1, greatest-n)
		}
	}
	for range m.Intn(3) {
		out = append(out, m.size())
	}
	return out
}

// P21.3: with more rows in tables nothing costs less.
func TestMore(t *testing.T) {
	got := map[string]int{}
	for seed := range 20000 {
		m := makerOf(100000 + seed)
		p, sizes := m.top(), m.sizes()
		a := weigh.Plan(sizes, p)
		for range 4 {
			sizes = m.more(sizes)
			b := weigh.Plan(sizes, p)
			if !plane.Right(b) || !plane.Within(a, b) {
				t.Fatalf("%d: %v, and with more %v", seed, a, b)
			}
			switch {
			case real(a) < real(b) && imag(a) < imag(b):
				got["both"]++
			case real(a) < real(b):
				got["steps"]++
			case a == b:
				got["the same"]++
			}
			a = b
		}
	}
	enough(t, got, 1000, "both", "steps", "the same")
}

// P21.3, of one table that fills up, row by row.
func TestRowByRow(t *testing.T) {
	for seed := range 300 {
		m := makerOf(200000 + seed)
		p, sizes := m.top(), list(0, 3, 2, 0, 4)
		at := m.Intn(len(sizes))
		sizes[at] = 0
		was := weigh.Plan(sizes, p)
		for sizes[at] < api.MaxRows+2 {
			sizes[at]++
			now := weigh.Plan(sizes, p)
			if !plane.Within(was, now) || sizes[at] > api.MaxRows && now != was {
				t.Fatalf("%d: %v, and with %d rows %v", seed, was, sizes[at], now)
			}
			was = now
		}
	}
}
