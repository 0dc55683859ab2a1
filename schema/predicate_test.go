package schema_test

import (
	"fmt"
	"slices"
	"strings"
	"testing"

	"cordon/api"
)

// kinds are one of each kind of expression, the kinds that are none in a predicate among them.
func kinds() []api.Expr {
	q := one(api.Query{Kind: api.QuSelect, Items: one(api.Item{E: yes(), Name: "x"}), Limit: -1})
	return []api.Expr{
		null(), yes(), no(), num(3), text("x"), col("f"), {Kind: api.ExVar, S: "f"}, {Kind: api.ExNeg, Kids: one(num(1))}, not(col("f")), is(0, col("s")), is(1, col("s")),
		bin(col("n"), "<", num(2)), bin(col("f"), "or", null()), choice(col("f"), null(), no()),
		{Kind: api.ExExists, Q: q}, {Kind: api.ExIn, Kids: one(num(1)), Q: q}, {Kind: api.ExScalar, Q: q}, {Kind: api.ExAgg, S: "count"}, {Kind: api.ExAgg, S: "max", Kids: one(col("f"))},
	}
}

var predicateKinds = []int{api.ExNull, api.ExBool, api.ExInt, api.ExText, api.ExCol, api.ExNot, api.ExIs, api.ExBin, api.ExCase}

// fits asks for what New answers of a predicate; what is none is none within another one, too.
func fits(t *testing.T, x api.Expr, want api.Errno) {
	t.Helper()
	expect(t, x, want)
	for _, whole := range []api.Expr{is(0, x), choice(yes(), null(), is(1, bin(null(), "<>", x)))} {
		if want == api.ErrShape {
			expect(t, whole, want)
		} else {
			expect(t, whole, api.OK)
		}
	}
}

func expect(t *testing.T, x api.Expr, want api.Errno) {
	t.Helper()
	if want == api.OK {
		accepted(t, "predicate", hiding(x))
	} else {
		refused(t, "predicate", hiding(x), 1, want)
	}
	holds(t, hiding(x), "predicate")
}

func TestKinds(t *testing.T) {
	for _, x := range kinds() {
		want := api.OK
		switch {
		case !slices.Contains(predicateKinds, x.Kind):
			want = api.ErrShape
		case x.Kind == api.ExInt || x.Kind == api.ExText:
			want = api.ErrType
		}
		fits(t, x, want)
		tooManyKids := with(x, func(x *api.Expr) { x.Kids = append(slices.Clone(x.Kids), null()) })
		fits(t, tooManyKids, api.ErrShape)
		if len(x.Kids) > 0 {
			fits(t, with(x, func(x *api.Expr) { x.Kids = x.Kids[1:] }), api.ErrShape)
			fits(t, with(x, func(x *api.Expr) { x.Kids = nil }), api.ErrShape)
		}
	}
	for kind := -3; kind < 30; kind++ {
		if !slices.Contains(predicateKinds, kind) {
			for n := range 4 {
				fits(t, api.Expr{Kind: kind, Kids: numbered(n, func(int) api.Expr { return yes() })}, api.ErrShape)
				fits(t, api.Expr{Kind: kind, S: "=", Kids: numbered(n, func(int) api.Expr { return yes() })}, api.ErrShape)
			}
		}
	}
	for _, kind := range []int{-1 << 63, 1<<63 - 1} {
		fits(t, api.Expr{Kind: kind}, api.ErrShape)
	}
}

// A field that its kind has not says nothing; it is handed out as it came.
func TestOtherFields(t *testing.T) {
	q := one(api.Query{Kind: 77, Limit: 5})
	for _, x := range kinds() {
		if !slices.Contains(predicateKinds, x.Kind) {
			continue
		}
		want := api.OK
		if x.Kind == api.ExInt || x.Kind == api.ExText {
			want = api.ErrType
		}
		var others []func(x *api.Expr)
		others = append(others, func(x *api.Expr) { x.Q = q })
		if x.Kind != api.ExCol {
			others = append(others, func(x *api.Expr) { x.T = "elsewhere" })
		}
		if x.Kind != api.ExText && x.Kind != api.ExCol && x.Kind != api.ExBin {
			others = append(others, func(x *api.Expr) { x.S = "something" }, func(x *api.Expr) { x.S = strings.Repeat("x", api.MaxText+1) })
		}
		if x.Kind != api.ExBool {
			for _, n := range []int{-1 << 63, -1, 0, 1, 2, 1<<63 - 1} {
				others = append(others, func(x *api.Expr) { x.N = n })
			}
		}
		for _, other := range others {
			fits(t, with(x, other), want)
		}
	}
}

func TestConstants(t *testing.T) {
	for _, n := range []int{-1 << 63, -1, 2, 3, 1<<63 - 1} {
		fits(t, api.Expr{Kind: api.ExBool, N: n}, api.ErrShape)
	}
	for _, n := range []int{-1 << 63, -1, 0, 1 << 62, 1<<63 - 1} {
		fits(t, bin(col("n"), ">=", num(n)), api.OK)
	}
	for _, s := range []string{"", "\x00\xff", strings.Repeat("x", api.MaxText)} {
		fits(t, bin(text(s), "<>", col("s")), api.OK)
	}
	for _, n := range []int{api.MaxText + 1, 2 * api.MaxText} {
		fits(t, bin(text(strings.Repeat("x", n)), "<>", col("s")), api.ErrShape)
	}
}

func TestMarks(t *testing.T) {
	for _, mark := range []string{"=", "<>", "<", "<=", ">", ">=", "or", "and"} {
		fits(t, bin(col("f"), mark, no()), api.OK)
	}
	for _, mark := range []string{"", "+", "-", "*", "/", "%", "||", "==", "!=", "OR", "And", " or", "=<", "not", "is", "in", "xor", "\x00"} {
		fits(t, bin(col("f"), mark, no()), api.ErrShape)
		fits(t, bin(null(), mark, null()), api.ErrShape)
	}
}

func TestColumns(t *testing.T) {
	fits(t, col("f"), api.OK)
	fits(t, colOf("t", "f"), api.OK)
	for _, other := range []string{"u", "T", " t", "tt", "f", "low", "a"} {
		fits(t, colOf(other, "f"), api.ErrShape)
	}
	for _, other := range []string{"", "F", "t", "id2", "low", " f", "f "} {
		fits(t, col(other), api.ErrShape)
		fits(t, colOf("t", other), api.ErrShape)
	}
	s := cornered(wide("t"), api.Table{Name: "u", Rows: "low", Cols: one(column("x", api.TyBool, "low")), Hide: "low", When: one(col("x"))})
	accepted(t, "own column", s)
	for _, x := range []api.Expr{col("f"), colOf("t", "f"), colOf("t", "x")} {
		refused(t, "a column of the table ahead", with(s, func(s *api.Schema) { s.Tables = one(s.Tables[0], with(s.Tables[1], when(x))) }), 2, api.ErrShape)
	}
}

// ofType are expressions of each type: null, bool, int and text.
var ofType = [4][]api.Expr{
	api.TyNull: {null(), choice(null(), null(), null())},
	api.TyBool: {yes(), col("f"), is(1, text("x")), bin(num(1), "<=", null()), choice(null(), col("f"), null())},
	api.TyInt:  {num(7), colOf("t", "n"), choice(yes(), null(), num(1))},
	api.TyText: {text("x"), col("s"), choice(no(), text("a"), col("s"))},
}

// typeIs asks for an expression's type (-1: it has none), by what may be compared with it.
func typeIs(t *testing.T, x api.Expr, want int) {
	t.Helper()
	direct := api.ErrType
	if want == api.TyBool || want == api.TyNull {
		direct = api.OK
	}
	expect(t, x, direct)
	for kind, all := range ofType {
		beside := api.ErrType
		if want >= 0 && (want == kind || want == api.TyNull || kind == api.TyNull) {
			beside = api.OK
		}
		expect(t, bin(x, "=", all[0]), beside)
		expect(t, bin(all[0], ">", x), beside)
	}
	under := api.ErrType
	if want >= 0 {
		under = api.OK
	}
	expect(t, is(0, x), under)
}

func TestTypesOfParts(t *testing.T) {
	for kind, all := range ofType {
		for _, x := range all {
			typeIs(t, x, kind)
		}
	}
}

func TestTypesUnderNotAndIs(t *testing.T) {
	for kind, all := range ofType {
		for _, x := range all {
			want := -1
			if kind == api.TyNull || kind == api.TyBool {
				want = api.TyBool
			}
			typeIs(t, not(x), want)
			typeIs(t, is(0, x), api.TyBool)
			typeIs(t, is(1, x), api.TyBool)
		}
	}
}

func TestTypesUnderMarks(t *testing.T) {
	for _, mark := range []string{"or", "and", "=", "<>", "<", "<=", ">", ">="} {
		for a, as := range ofType {
			for b, bs := range ofType {
				fit := a == b || a == api.TyNull || b == api.TyNull
				if mark == "or" || mark == "and" {
					fit = a <= api.TyBool && b <= api.TyBool
				}
				want := -1
				if fit {
					want = api.TyBool
				}
				for i := range 3 {
					typeIs(t, bin(as[i%len(as)], mark, bs[(i*i+1)%len(bs)]), want)
				}
			}
		}
	}
}

func TestTypesUnderCase(t *testing.T) {
	for a, as := range ofType {
		for b, bs := range ofType {
			for c, cs := range ofType {
				want := -1
				switch {
				case a > api.TyBool:
				case b == c || c == api.TyNull:
					want = b
				case b == api.TyNull:
					want = c
				}
				for i := range 2 {
					typeIs(t, choice(as[i], bs[(i+1)%len(bs)], cs[i%len(cs)]), want)
				}
			}
		}
	}
}

// What has a part without a type has none itself, wherever that part stands.
func TestNoTypeGoesUp(t *testing.T) {
	for _, x := range []api.Expr{not(num(1)), bin(num(1), "=", text("a")), bin(yes(), "and", text("a")), choice(num(1), yes(), yes()), choice(yes(), num(1), text("a"))} {
		for _, whole := range []api.Expr{
			x, not(x), is(0, x), is(1, x), bin(x, "or", yes()), bin(no(), "and", x), bin(x, "=", null()), bin(null(), "<", x), bin(x, "=", x), bin(yes(), "<>", x),
			choice(x, null(), null()), choice(null(), x, null()), choice(null(), null(), x), choice(yes(), x, x), choice(yes(), x, no()), choice(yes(), no(), x),
		} {
			typeIs(t, whole, -1)
		}
	}
}

// Of the kinds that have kids, each as deep as it may be, and one deeper, on each side.
func TestDeep(t *testing.T) {
	for name, up := range map[string]func(x api.Expr) api.Expr{
		"not":       not,
		"is":        func(x api.Expr) api.Expr { return is(0, x) },
		"or, left":  func(x api.Expr) api.Expr { return bin(x, "or", no()) },
		"=, right":  func(x api.Expr) api.Expr { return bin(yes(), "=", x) },
		"case":      func(x api.Expr) api.Expr { return choice(x, yes(), no()) },
		"case then": func(x api.Expr) api.Expr { return choice(no(), x, no()) },
		"case else": func(x api.Expr) api.Expr { return choice(no(), yes(), x) },
	} {
		x := col("f")
		for deep := 1; deep <= 2*api.MaxNest; deep++ {
			if deep <= api.MaxNest {
				accepted(t, fmt.Sprint(name, " ", deep), hiding(x))
			} else {
				refused(t, fmt.Sprint(name, " ", deep), hiding(x), 1, api.ErrShape)
			}
			x = up(x)
		}
	}
	x := bin(num(1), "=", text("no type"))
	for range api.MaxNest - 2 {
		x = not(x)
	}
	refused(t, "no type, as deep as may be", hiding(x), 1, api.ErrType)
	refused(t, "no type, one deeper", hiding(not(x)), 1, api.ErrShape)
	x = col("f")
	for range 1 << 15 {
		x = not(x)
	}
	refused(t, "far too deep", hiding(x), 1, api.ErrShape)
}

// What holds itself is too deep.
func TestEndless(t *testing.T) {
	for _, n := range []int{1, 2, 3} {
		kids := make([]api.Expr, n)
		for i := range kids {
			kids[i] = api.Expr{Kind: map[int]int{1: api.ExNot, 2: api.ExBin, 3: api.ExCase}[n], S: "or", Kids: kids}
		}
		refused(t, "endless", hiding(kids[0]), 1, api.ErrShape)
	}
}

// A query in a predicate is not one of its kids, so that it makes nothing deeper.
func TestQueriesAreAside(t *testing.T) {
	x := api.Expr{Kind: api.ExInt, Q: one(api.Query{Where: one(towering(2*api.MaxNest, col("above")))})}
	fits(t, bin(x, "=", x), api.OK)
}
