package value_test

import (
	"math"
	"strings"
	"testing"

	"cordon/api"
	"cordon/value"
)

// rightValues are right values of each type, with the edges that the chapter names.
func rightValues() []api.Value {
	out := []api.Value{null, no, yes}
	for _, n := range edges {
		out = append(out, num(n))
	}
	full := strings.Repeat("x", api.MaxText)
	for _, s := range []string{"", "\x00", "0", "1", "a", "ab", "b", "true", "null", "é", "\xff", full, full[1:]} {
		out = append(out, text(s))
	}
	return out
}

// wrongValues are values that are not right, of each type and of none.
func wrongValues() []api.Value {
	long := strings.Repeat("x", api.MaxText+1)
	out := []api.Value{text(long), text(long + long)}
	for _, kind := range []int{math.MinInt64, -1, api.TyNull, api.TyBool, api.TyInt, api.TyText, 4, math.MaxInt64} {
		for _, n := range []int{math.MinInt64, -1, 0, 1, 2, math.MaxInt64} {
			for _, s := range []string{"", "x", long} {
				v := api.Value{Type: kind, N: n, S: s}
				if value.Right(v) != api.OK {
					out = append(out, v)
				}
			}
		}
	}
	return out
}

func must(t *testing.T) func(v api.Value, err api.Errno) api.Value {
	return func(v api.Value, err api.Errno) api.Value {
		t.Helper()
		if err != api.OK {
			t.Fatalf("refused: %v", err)
		}
		return v
	}
}

// P1.7

func TestLaws(t *testing.T) {
	truths := []api.Value{no, null, yes}
	do := must(t)
	same := func(law string, got, want api.Value) {
		t.Helper()
		if got != want {
			t.Errorf("%s: %v and %v", law, got, want)
		}
	}
	for _, a := range truths {
		same("not not", do(value.Not(do(value.Not(a)))), a)
		for _, b := range truths {
			and, or := do(value.And(a, b)), do(value.Or(a, b))
			same("and turns", and, do(value.And(b, a)))
			same("or turns", or, do(value.Or(b, a)))
			same("and swallows", do(value.And(a, or)), a)
			same("or swallows", do(value.Or(a, and)), a)
			same("not of and", do(value.Not(and)), do(value.Or(do(value.Not(a)), do(value.Not(b)))))
			same("not of or", do(value.Not(or)), do(value.And(do(value.Not(a)), do(value.Not(b)))))
			for _, c := range truths {
				same("and groups", do(value.And(and, c)), do(value.And(a, do(value.And(b, c)))))
				same("or groups", do(value.Or(or, c)), do(value.Or(a, do(value.Or(b, c)))))
			}
		}
	}
}

// P1.8

func TestNumbersComeBack(t *testing.T) {
	do := must(t)
	added, divided := 0, 0
	for _, x := range numbers() {
		for _, y := range numbers() {
			if sum, err := value.Add(num(x), num(y)); err == api.OK {
				added++
				if back := do(value.Sub(sum, num(y))); back != num(x) {
					t.Errorf("%d + %d - %d = %v", x, y, y, back)
				}
			}
			if div, err := value.Div(num(x), num(y)); err == api.OK {
				divided++
				rest := do(value.Mod(num(x), num(y)))
				if back := do(value.Add(do(value.Mul(div, num(y))), rest)); back != num(x) {
					t.Errorf("%d: Div and Mod by %d come to %v", x, y, back)
				}
				if rest.N != 0 && (rest.N < 0) != (x < 0) {
					t.Errorf("Mod(%d, %d) = %d has another sign", x, y, rest.N)
				}
			}
		}
	}
	if added == 0 || divided == 0 {
		t.Error("nothing was reckoned")
	}
}

// P1.9

func TestOrderIsTotal(t *testing.T) {
	all := rightValues()
	for _, a := range all {
		if value.Right(a) != api.OK {
			t.Fatalf("%v is not right", short(a))
		}
		for _, b := range all {
			ab, ba := value.Order(a, b), value.Order(b, a)
			if ab < -1 || ab > 1 || ab != -ba || (ab == 0) != (a == b) {
				t.Errorf("%v and %v: %d and %d", short(a), short(b), ab, ba)
			}
			if less, err := value.Less(a, b); err == api.OK && less != null && value.True(less) != (ab < 0) {
				t.Errorf("Less(%v, %v) = %v, Order %d", short(a), short(b), less, ab)
			}
			for _, c := range all {
				if ab <= 0 && value.Order(b, c) <= 0 && value.Order(a, c) > 0 {
					t.Errorf("%v, %v, %v do not rise", short(a), short(b), short(c))
				}
			}
		}
	}
}

// P1, P2 and the rules, of every call that answers an error.

func binaries() map[string]binary {
	return map[string]binary{
		"And": value.And, "Or": value.Or, "Add": value.Add, "Sub": value.Sub, "Mul": value.Mul, "Div": value.Div,
		"Mod": value.Mod, "Concat": value.Concat, "Eq": value.Eq, "Less": value.Less,
		"Not": func(a, _ api.Value) (api.Value, api.Errno) { return value.Not(a) },
		"Neg": func(a, _ api.Value) (api.Value, api.Errno) { return value.Neg(a) },
	}
}

func TestEveryCallAnswers(t *testing.T) {
	all := append(rightValues(), wrongValues()...)
	for name, f := range binaries() {
		for _, a := range all {
			for _, b := range all {
				got, err := f(a, b)
				if err != api.OK && got != null {
					t.Errorf("%s(%v, %v): %v beside %v", name, short(a), short(b), short(got), err)
				}
				if again, errAgain := f(a, b); again != got || errAgain != err {
					t.Errorf("%s(%v, %v): the second time %v, %v", name, short(a), short(b), short(again), errAgain)
				}
				if e := value.Right(got); err == api.OK && e != api.OK {
					t.Errorf("%s(%v, %v) = %v is not right: %v", name, short(a), short(b), short(got), e)
				}
			}
		}
	}
	for _, a := range all {
		value.True(a)
		for _, b := range all {
			if o := value.Order(a, b); o != -value.Order(b, a) || (o == 0) != (a == b) {
				t.Errorf("Order(%v, %v) = %d", short(a), short(b), o)
			}
		}
	}
}

// A value that is of null's type and is not right is no null: it stands in for none.
func TestNullIsOneValue(t *testing.T) {
	for _, v := range []api.Value{{N: 1}, {N: -1}, {S: "x"}} {
		for _, name := range []string{"And", "Or", "Not", "Add", "Sub", "Mul", "Div", "Mod", "Neg", "Concat"} {
			checkRows(t, name, binaries()[name], []row{{v, null, null, api.ErrType}})
		}
		checkRows(t, "Eq", value.Eq, []row{{v, v, yes, api.OK}, {v, no, null, api.ErrType}})
	}
}

func TestRefusalIsNotRemembered(t *testing.T) {
	for name, f := range binaries() {
		for _, v := range rightValues() {
			before, errBefore := f(v, v)
			f(api.Value{Type: 4}, v)
			f(v, api.Value{Type: 4})
			f(num(math.MaxInt64), num(0))
			if after, errAfter := f(v, v); after != before || errAfter != errBefore {
				t.Errorf("%s(%v, ..): %v, %v and then %v, %v", name, short(v), short(before), errBefore, short(after), errAfter)
			}
		}
	}
}

func TestSignatures(t *testing.T) {
	var _ func() api.Value = value.Null
	var _ func(bool) api.Value = value.Bool
	var _ func(int) api.Value = value.Int
	var _ func(string) api.Value = value.Text
	var _ func(api.Value) api.Errno = value.Right
	var _ func(api.Value) (api.Value, api.Errno) = value.Not
	var _ func(api.Value) (api.Value, api.Errno) = value.Neg
	var _ func(api.Value, api.Value) int = value.Order
	var _ func(api.Value) bool = value.True
}
