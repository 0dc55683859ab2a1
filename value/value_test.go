package value_test

import (
	"math"
	"math/big"
	"strings"
	"testing"

	"cordon/api"
	"cordon/value"
)

type binary = func(a, b api.Value) (api.Value, api.Errno)

var (
	null = api.Value{}
	no   = api.Value{Type: api.TyBool, N: 0}
	yes  = api.Value{Type: api.TyBool, N: 1}
)

func num(n int) api.Value { return api.Value{Type: api.TyInt, N: n} }

func text(s string) api.Value { return api.Value{Type: api.TyText, S: s} }

// short keeps a failure's line readable where texts are long.
func short(v api.Value) api.Value {
	if len(v.S) > 20 {
		v.S = v.S[:20] + ".."
	}
	return v
}

type row struct {
	a, b, want api.Value
	err        api.Errno
}

func checkRows(t *testing.T, name string, f binary, rows []row) {
	t.Helper()
	for _, r := range rows {
		got, err := f(r.a, r.b)
		if got != r.want || err != r.err {
			t.Errorf("%s(%v, %v) = %v, %v; want %v, %v", name, short(r.a), short(r.b), short(got), err, short(r.want), r.err)
		}
	}
}

// P1.1

func TestMakers(t *testing.T) {
	long := strings.Repeat("x", api.MaxText+1)
	for _, c := range []struct{ got, want api.Value }{
		{value.Null(), null},
		{value.Bool(false), no},
		{value.Bool(true), yes},
		{value.Int(0), num(0)},
		{value.Int(math.MinInt64), num(math.MinInt64)},
		{value.Int(math.MaxInt64), num(math.MaxInt64)},
		{value.Text(""), text("")},
		{value.Text("a\x00\xff"), text("a\x00\xff")},
		{value.Text(long), text(long)},
	} {
		if c.got != c.want {
			t.Errorf("made %v, want %v", short(c.got), short(c.want))
		}
	}
}

func TestRight(t *testing.T) {
	full := strings.Repeat("x", api.MaxText)
	for _, c := range []struct {
		v    api.Value
		want api.Errno
	}{
		{null, api.OK},
		{api.Value{Type: api.TyNull, N: 1}, api.ErrArg},
		{api.Value{Type: api.TyNull, N: -1}, api.ErrArg},
		{api.Value{Type: api.TyNull, S: "x"}, api.ErrArg},
		{api.Value{Type: api.TyNull, S: full + "x"}, api.ErrArg},
		{no, api.OK},
		{yes, api.OK},
		{api.Value{Type: api.TyBool, N: 2}, api.ErrArg},
		{api.Value{Type: api.TyBool, N: -1}, api.ErrArg},
		{api.Value{Type: api.TyBool, N: 1, S: "x"}, api.ErrArg},
		{num(0), api.OK},
		{num(math.MinInt64), api.OK},
		{num(math.MaxInt64), api.OK},
		{api.Value{Type: api.TyInt, N: 3, S: "x"}, api.ErrArg},
		{api.Value{Type: api.TyInt, N: 3, S: full + "x"}, api.ErrArg},
		{text(""), api.OK},
		{text("\x00\xff"), api.OK},
		{text(full), api.OK},
		{text(full + "x"), api.ErrMany},
		{text(strings.Repeat("é", api.MaxText/2)), api.OK},
		{text(strings.Repeat("é", api.MaxText/2) + "x"), api.ErrMany},
		{api.Value{Type: api.TyText, N: 1, S: "x"}, api.ErrArg},
		{api.Value{Type: api.TyText, N: 1, S: full + "x"}, api.ErrArg},
		{api.Value{Type: -1}, api.ErrArg},
		{api.Value{Type: 4}, api.ErrArg},
		{api.Value{Type: math.MinInt64, N: 1, S: "x"}, api.ErrArg},
		{api.Value{Type: math.MaxInt64}, api.ErrArg},
	} {
		if got := value.Right(c.v); got != c.want {
			t.Errorf("Right(%v) = %v, want %v", short(c.v), got, c.want)
		}
	}
}

func TestTrue(t *testing.T) {
	if !value.True(yes) {
		t.Error("true is not true")
	}
	for _, v := range []api.Value{
		null, no, num(0), num(1), text(""), text("true"),
		{Type: api.TyBool, N: 2}, {Type: api.TyBool, N: 1, S: "x"}, {Type: api.TyText, N: 1}, {Type: 4, N: 1}, {N: 1},
	} {
		if value.True(v) {
			t.Errorf("%v is true", v)
		}
	}
}

// P1.2

func TestAnd(t *testing.T) {
	checkRows(t, "And", value.And, []row{
		{no, no, no, api.OK}, {no, null, no, api.OK}, {no, yes, no, api.OK},
		{null, no, no, api.OK}, {null, null, null, api.OK}, {null, yes, null, api.OK},
		{yes, no, no, api.OK}, {yes, null, null, api.OK}, {yes, yes, yes, api.OK},
	})
	checkTypes(t, "And", value.And, no, yes, null)
}

func TestOr(t *testing.T) {
	checkRows(t, "Or", value.Or, []row{
		{no, no, no, api.OK}, {no, null, null, api.OK}, {no, yes, yes, api.OK},
		{null, no, null, api.OK}, {null, null, null, api.OK}, {null, yes, yes, api.OK},
		{yes, no, yes, api.OK}, {yes, null, yes, api.OK}, {yes, yes, yes, api.OK},
	})
	checkTypes(t, "Or", value.Or, no, yes, null)
}

func TestNot(t *testing.T) {
	for _, c := range []struct {
		a, want api.Value
		err     api.Errno
	}{
		{no, yes, api.OK}, {yes, no, api.OK}, {null, null, api.OK},
		{num(0), null, api.ErrType}, {num(1), null, api.ErrType}, {text(""), null, api.ErrType},
		{api.Value{Type: 4}, null, api.ErrType}, {api.Value{Type: -1, N: 1}, null, api.ErrType},
	} {
		if got, err := value.Not(c.a); got != c.want || err != c.err {
			t.Errorf("Not(%v) = %v, %v; want %v, %v", c.a, got, err, c.want, c.err)
		}
	}
}

// checkTypes asks for ErrType of every value that has neither the type of the first of good nor is null, on either side.
func checkTypes(t *testing.T, name string, f binary, good ...api.Value) {
	t.Helper()
	others := []api.Value{
		no, yes, num(0), num(1), num(math.MinInt64), text(""), text("x"),
		{Type: 4}, {Type: -1, N: 1, S: "x"}, {Type: math.MaxInt64},
	}
	for _, bad := range others {
		if bad.Type == good[0].Type {
			continue
		}
		for _, g := range append([]api.Value{bad}, good...) {
			checkRows(t, name, f, []row{{bad, g, null, api.ErrType}, {g, bad, null, api.ErrType}})
		}
	}
}

// P1.3

var edges = []int{
	math.MinInt64, math.MinInt64 + 1, math.MinInt64 / 2, math.MinInt64/2 - 1, -1 << 32, -3037000500, -3037000499, -7, -2, -1,
	0, 1, 2, 7, 3037000499, 3037000500, 1 << 32, math.MaxInt64 / 2, math.MaxInt64/2 + 1, math.MaxInt64 - 1, math.MaxInt64,
}

// numbers are the edges, and some that a short rule scatters between them.
func numbers() []int {
	out := append([]int{}, edges...)
	x := uint64(1)
	for i := range 60 {
		x = x*6364136223846793005 + 1442695040888963407
		out = append(out, int(x)>>(i%60))
	}
	return out
}

// fromBig is what P1.3 answers where the number, reckoned without bounds, is n.
func fromBig(n *big.Int) (api.Value, api.Errno) {
	if !n.IsInt64() {
		return null, api.ErrOver
	}
	return num(int(n.Int64())), api.OK
}

func TestNumbers(t *testing.T) {
	for _, c := range []struct {
		name    string
		f       binary
		reckon  func(z, x, y *big.Int) *big.Int
		divides bool
	}{
		{"Add", value.Add, (*big.Int).Add, false},
		{"Sub", value.Sub, (*big.Int).Sub, false},
		{"Mul", value.Mul, (*big.Int).Mul, false},
		{"Div", value.Div, (*big.Int).Quo, true},
		{"Mod", value.Mod, (*big.Int).Rem, true},
	} {
		for _, x := range numbers() {
			for _, y := range numbers() {
				want, wantErr := null, api.ErrZero
				if !c.divides || y != 0 {
					want, wantErr = fromBig(c.reckon(new(big.Int), big.NewInt(int64(x)), big.NewInt(int64(y))))
				}
				checkRows(t, c.name, c.f, []row{{num(x), num(y), want, wantErr}})
			}
			checkRows(t, c.name, c.f, []row{{num(x), null, null, api.OK}, {null, num(x), null, api.OK}})
		}
		checkRows(t, c.name, c.f, []row{{null, null, null, api.OK}})
		checkTypes(t, c.name, c.f, num(0), num(1), num(math.MinInt64), null)
	}
}

func TestNumbersByHand(t *testing.T) {
	low, high := num(math.MinInt64), num(math.MaxInt64)
	checkRows(t, "Add", value.Add, []row{
		{high, num(1), null, api.ErrOver}, {low, num(-1), null, api.ErrOver}, {low, high, num(-1), api.OK},
		{low, low, null, api.ErrOver}, {high, num(0), high, api.OK},
	})
	checkRows(t, "Sub", value.Sub, []row{
		{num(0), low, null, api.ErrOver}, {num(-1), low, high, api.OK}, {low, num(1), null, api.ErrOver},
		{high, num(-1), null, api.ErrOver}, {low, low, num(0), api.OK},
	})
	checkRows(t, "Mul", value.Mul, []row{
		{low, num(-1), null, api.ErrOver}, {num(-1), low, null, api.ErrOver}, {high, num(-1), num(-math.MaxInt64), api.OK},
		{low, num(1), low, api.OK}, {num(0), low, num(0), api.OK}, {low, num(0), num(0), api.OK},
		{num(1 << 32), num(1 << 31), null, api.ErrOver}, {num(1 << 32), num(-1 << 31), low, api.OK},
	})
	checkRows(t, "Div", value.Div, []row{
		{num(-7), num(2), num(-3), api.OK}, {num(7), num(-2), num(-3), api.OK}, {num(-7), num(-2), num(3), api.OK},
		{low, num(-1), null, api.ErrOver}, {low, num(1), low, api.OK}, {high, num(-1), num(-math.MaxInt64), api.OK},
		{num(0), num(0), null, api.ErrZero}, {low, num(0), null, api.ErrZero}, {null, num(0), null, api.OK},
		{text("x"), num(0), null, api.ErrType},
	})
	checkRows(t, "Mod", value.Mod, []row{
		{num(-7), num(2), num(-1), api.OK}, {num(7), num(-2), num(1), api.OK}, {num(-7), num(-2), num(-1), api.OK},
		{low, num(-1), num(0), api.OK}, {num(0), num(0), null, api.ErrZero}, {null, num(0), null, api.OK},
		{yes, num(0), null, api.ErrType},
	})
}

func TestNeg(t *testing.T) {
	for _, x := range numbers() {
		want, wantErr := fromBig(new(big.Int).Neg(big.NewInt(int64(x))))
		if got, err := value.Neg(num(x)); got != want || err != wantErr {
			t.Errorf("Neg(%d) = %v, %v; want %v, %v", x, got, err, want, wantErr)
		}
	}
	if got, err := value.Neg(null); got != null || err != api.OK {
		t.Errorf("Neg(null) = %v, %v", got, err)
	}
	for _, v := range []api.Value{no, yes, text(""), text("1"), {Type: 4}, {Type: -1, N: 1}} {
		if got, err := value.Neg(v); got != null || err != api.ErrType {
			t.Errorf("Neg(%v) = %v, %v", v, got, err)
		}
	}
}

// P1.4

func TestConcat(t *testing.T) {
	full := strings.Repeat("x", api.MaxText)
	checkRows(t, "Concat", value.Concat, []row{
		{text("a"), text("b"), text("ab"), api.OK},
		{text("b"), text("a"), text("ba"), api.OK},
		{text(""), text(""), text(""), api.OK},
		{text("\xc3"), text("\xa9"), text("é"), api.OK},
		{text(full), text(""), text(full), api.OK},
		{text(full[1:]), text("y"), text(full[1:] + "y"), api.OK},
		{text("y"), text(full[1:]), text("y" + full[1:]), api.OK},
		{text(full), text("y"), null, api.ErrMany},
		{text("y"), text(full), null, api.ErrMany},
		{text(full), text(full), null, api.ErrMany},
		{null, text(full), null, api.OK},
		{text("a"), null, null, api.OK},
		{null, null, null, api.OK},
	})
	checkTypes(t, "Concat", value.Concat, text(""), text("x"), text(full), null)
}

// P1.5

func TestEqAndLess(t *testing.T) {
	for _, c := range []struct {
		a, b     api.Value
		eq, less bool
	}{
		{no, no, true, false}, {no, yes, false, true}, {yes, no, false, false}, {yes, yes, true, false},
		{num(-1), num(1), false, true}, {num(1), num(-1), false, false}, {num(5), num(5), true, false},
		{num(math.MinInt64), num(math.MaxInt64), false, true}, {num(math.MaxInt64), num(math.MinInt64), false, false},
		{num(10), num(9), false, false},
		{text("a"), text("b"), false, true}, {text("b"), text("a"), false, false}, {text("a"), text("a"), true, false},
		{text(""), text(""), true, false}, {text(""), text("\x00"), false, true},
		{text("a"), text("ab"), false, true}, {text("ab"), text("a"), false, false}, {text("ab"), text("b"), false, true},
		{text("10"), text("9"), false, true}, {text("B"), text("a"), false, true},
		{text("\x7f"), text("\x80"), false, true}, {text("\xff"), text("é"), false, false},
	} {
		checkRows(t, "Eq", value.Eq, []row{{c.a, c.b, value.Bool(c.eq), api.OK}})
		checkRows(t, "Less", value.Less, []row{{c.a, c.b, value.Bool(c.less), api.OK}})
	}
	for _, f := range []binary{value.Eq, value.Less} {
		for _, v := range rightValues() {
			checkRows(t, "Eq or Less", f, []row{{v, null, null, api.OK}, {null, v, null, api.OK}})
			for _, w := range rightValues() {
				if v != null && w != null && v.Type != w.Type {
					checkRows(t, "Eq or Less", f, []row{{v, w, null, api.ErrType}})
				}
			}
		}
		for _, v := range []api.Value{{Type: 4}, {Type: -1, N: 7, S: "x"}} {
			checkRows(t, "Eq or Less", f, []row{
				{v, null, null, api.OK}, {null, v, null, api.OK},
				{v, yes, null, api.ErrType}, {num(7), v, null, api.ErrType}, {v, text("x"), null, api.ErrType},
			})
		}
	}
}

// P1.6

func TestOrder(t *testing.T) {
	rising := []api.Value{
		null, no, yes, num(math.MinInt64), num(-1), num(0), num(1), num(10), num(math.MaxInt64),
		text(""), text("\x00"), text("10"), text("9"), text("a"), text("a\x00"), text("ab"), text("b"), text("\xff"),
	}
	checkRising(t, rising)
}

func TestOrderOfWrongValues(t *testing.T) {
	long := strings.Repeat("x", api.MaxText+1)
	checkRising(t, []api.Value{{Type: api.TyNull, N: -1, S: "z"}, {Type: api.TyNull, N: 1, S: "a"}, {Type: api.TyNull, N: 1, S: "b"}, {Type: api.TyNull, N: 2}})
	checkRising(t, []api.Value{{Type: api.TyBool, N: -3, S: "b"}, {Type: api.TyBool, N: 2, S: "a"}, {Type: api.TyBool, N: 2, S: "b"}, {Type: api.TyBool, N: 7}})
	checkRising(t, []api.Value{{Type: api.TyInt, N: 1, S: "b"}, {Type: api.TyInt, N: 2, S: "a"}, {Type: api.TyInt, N: 2, S: "ab"}})
	checkRising(t, []api.Value{{Type: api.TyText, N: -1, S: "z"}, text(long), text(long + "x"), {Type: api.TyText, N: 1, S: "a"}})
	checkRising(t, []api.Value{{Type: 4, N: math.MinInt64}, {Type: 4, N: 0, S: "z"}, {Type: 4, N: 1, S: ""}, {Type: 4, N: 1, S: "a"}})
}

func checkRising(t *testing.T, rising []api.Value) {
	t.Helper()
	for i, a := range rising {
		for j, b := range rising {
			want := 0
			if i < j {
				want = -1
			} else if i > j {
				want = 1
			}
			if got := value.Order(a, b); got != want {
				t.Errorf("Order(%v, %v) = %d, want %d", short(a), short(b), got, want)
			}
		}
	}
}
