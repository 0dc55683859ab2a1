package code_test

import (
	"math"
	"slices"
	"strings"
	"testing"

	"cordon/api"
	"cordon/code"
	"cordon/value"
)

var (
	null = api.Value{}
	no   = api.Value{Type: api.TyBool}
	yes  = api.Value{Type: api.TyBool, N: 1}

	full = strings.Repeat("x", api.MaxText)
	long = full + "x"

	// odd is a value that is not right, for which value.Right has another error than for one that is too long.
	odd = api.Value{Type: 9}
)

func num(n int) api.Value     { return api.Value{Type: api.TyInt, N: n} }
func text(s string) api.Value { return api.Value{Type: api.TyText, S: s} }

func row(vs ...api.Value) []api.Value { return vs }

func bytes(bs ...byte) string { return string(bs) }

func many(v api.Value, n int) []api.Value { return slices.Repeat(row(v), n) }

// laid are rows and their bytes, written out.
func laid() []struct {
	row   []api.Value
	bytes string
} {
	return []struct {
		row   []api.Value
		bytes string
	}{
		{nil, ""},
		{row(null), bytes(1)},
		{row(no), bytes(2)},
		{row(yes), bytes(3)},
		{row(num(0)), bytes(4, 128, 0, 0, 0, 0, 0, 0, 0)},
		{row(num(1)), bytes(4, 128, 0, 0, 0, 0, 0, 0, 1)},
		{row(num(-1)), bytes(4, 127, 255, 255, 255, 255, 255, 255, 255)},
		{row(num(256)), bytes(4, 128, 0, 0, 0, 0, 0, 1, 0)},
		{row(num(0x0102030405060708)), bytes(4, 129, 2, 3, 4, 5, 6, 7, 8)},
		{row(num(math.MinInt64)), bytes(4, 0, 0, 0, 0, 0, 0, 0, 0)},
		{row(num(math.MaxInt64)), bytes(4, 255, 255, 255, 255, 255, 255, 255, 255)},
		{row(text("")), bytes(5, 0, 0)},
		{row(text("a")), bytes(5, 97, 0, 0)},
		{row(text("\x00")), bytes(5, 0, 255, 0, 0)},
		{row(text("\x00\x00")), bytes(5, 0, 255, 0, 255, 0, 0)},
		{row(text("\xff")), bytes(5, 255, 0, 0)},
		{row(text("\x00\xff")), bytes(5, 0, 255, 255, 0, 0)},
		{row(text("\xff\x00")), bytes(5, 255, 0, 255, 0, 0)},
		{row(text("é")), bytes(5, 0xc3, 0xa9, 0, 0)},
		{row(text("\x01\x02\x03\x04\x05")), bytes(5, 1, 2, 3, 4, 5, 0, 0)},
		{row(text(full)), "\x05" + full + "\x00\x00"},
		{row(text(strings.Repeat("\x00", api.MaxText))), "\x05" + strings.Repeat("\x00\xff", api.MaxText) + "\x00\x00"},
		{row(num(1), text("a")), bytes(4, 128, 0, 0, 0, 0, 0, 0, 1, 5, 97, 0, 0)},
		{row(text("a"), num(1)), bytes(5, 97, 0, 0, 4, 128, 0, 0, 0, 0, 0, 0, 1)},
		{row(text(""), text("")), bytes(5, 0, 0, 5, 0, 0)},
		{row(yes, no, null, null), bytes(3, 2, 1, 1)},
		{many(null, api.MaxCols), strings.Repeat("\x01", api.MaxCols)},
		{many(text(full), api.MaxCols), strings.Repeat("\x05"+full+"\x00\x00", api.MaxCols)},
	}
}

func encodes(t *testing.T, what string, r []api.Value, want string, wantErr api.Errno) {
	t.Helper()
	if got, err := code.Encode(r); got != want || err != wantErr {
		t.Errorf("Encode, %s: %v %v, want %v %v", what, []byte(got), err, []byte(want), wantErr)
	}
}

func decodes(t *testing.T, what, s string, want []api.Value, wantErr api.Errno) {
	t.Helper()
	if got, err := code.Decode(s); !slices.Equal(got, want) || err != wantErr {
		t.Errorf("Decode, %s: %v %v, want %v %v", what, got, err, want, wantErr)
	}
}

func keys(t *testing.T, what string, r []api.Value, cols []int, want string, wantErr api.Errno) {
	t.Helper()
	if got, err := code.Key(r, cols); got != want || err != wantErr {
		t.Errorf("Key, %s: %v %v, want %v %v", what, []byte(got), err, []byte(want), wantErr)
	}
}

// P2.1

func TestEncode(t *testing.T) {
	for _, l := range laid() {
		encodes(t, "laid", l.row, l.bytes, api.OK)
	}
	encodes(t, "empty", row(), "", api.OK)
}

func TestEncodeRefuses(t *testing.T) {
	encodes(t, "a text too long", row(text(long)), "", api.ErrMany)
	encodes(t, "one value too many", many(null, api.MaxCols+1), "", api.ErrMany)
	encodes(t, "many values too many", many(yes, 1000), "", api.ErrMany)
	encodes(t, "an odd value", row(odd), "", api.ErrArg)
	encodes(t, "an odd value last", row(null, num(1), odd), "", api.ErrArg)
	encodes(t, "odd, then long", row(null, odd, text(long)), "", api.ErrArg)
	encodes(t, "long, then odd", row(null, text(long), odd), "", api.ErrMany)
	encodes(t, "too many, the last odd", append(many(null, api.MaxCols), odd), "", api.ErrArg)
	encodes(t, "too many, one far behind odd", append(many(null, 1000), odd), "", api.ErrArg)
	encodes(t, "too many, the first odd", append(row(odd), many(null, api.MaxCols)...), "", api.ErrArg)
	encodes(t, "too many, long, then odd", append(row(text(long), odd), many(null, api.MaxCols)...), "", api.ErrMany)
	encodes(t, "too many, the last long", append(many(null, api.MaxCols), text(long)), "", api.ErrMany)
}

func TestEncodeAsksRight(t *testing.T) {
	for _, v := range wrongValues() {
		want := value.Right(v)
		if want == api.OK {
			t.Fatalf("%v is right", v)
		}
		encodes(t, "alone", row(v), "", want)
		encodes(t, "within", row(no, v, text("a")), "", want)
		keys(t, "picked", row(no, v), []int{0, 1}, "", want)
	}
}

// P2.2

func TestDecode(t *testing.T) {
	for _, l := range laid() {
		decodes(t, "laid", l.bytes, l.row, api.OK)
	}
}

func TestDecodeRefusesForm(t *testing.T) {
	for b := range 256 {
		if b < 1 || b > 5 {
			decodes(t, "a first byte", string([]byte{byte(b)}), nil, api.ErrForm)
			decodes(t, "a first byte behind", bytes(1, 2, 3, byte(b)), nil, api.ErrForm)
			decodes(t, "a first byte ahead", bytes(byte(b), 1), nil, api.ErrForm)
		}
		if b != 0 && b != 255 {
			decodes(t, "0 and another byte", bytes(5, 97, 0, byte(b), 0, 0), nil, api.ErrForm)
		}
	}
	number := bytes(4, 128, 0, 0, 0, 0, 0, 0, 1)
	for n := range len(number) - 1 {
		decodes(t, "a number cut short", number[:n+1], nil, api.ErrForm)
		decodes(t, "a number cut short behind", "\x01"+number[:n+1], nil, api.ErrForm)
	}
	decodes(t, "a number and a byte", number+"\x00", nil, api.ErrForm)
	for _, s := range []string{"", "a", "a\x00", "\x00", "\x00\xff", "\x00\xff\x00", "\xff", "\xff\xff", "a\x00\xffb", full} {
		decodes(t, "a text without an end", "\x05"+s, nil, api.ErrForm)
	}
	decodes(t, "a text and a byte", bytes(5, 97, 0, 0, 0), nil, api.ErrForm)
	decodes(t, "a text and 255", bytes(5, 97, 0, 0, 255), nil, api.ErrForm)
	decodes(t, "the end's bytes within a text", bytes(5, 0, 0, 0, 0), nil, api.ErrForm)
}

// A row that is cut short is the values that are whole, or no row.
func TestDecodeCutShort(t *testing.T) {
	whole := row(null, num(-5), text("a\x00b"), yes, text(""), no, num(math.MaxInt64))
	ends := map[int]int{0: 0}
	at := 0
	for i, v := range whole {
		s, _ := code.Encode(row(v))
		at += len(s)
		ends[at] = i + 1
	}
	s, _ := code.Encode(whole)
	if len(s) != at {
		t.Fatalf("%d bytes, want %d", len(s), at)
	}
	for n := range len(s) + 1 {
		if count, ok := ends[n]; ok {
			decodes(t, "cut between values", s[:n], whole[:count], api.OK)
		} else {
			decodes(t, "cut within a value", s[:n], nil, api.ErrForm)
		}
	}
}

func TestDecodeRefusesMany(t *testing.T) {
	textOf := func(s string) string { return "\x05" + strings.ReplaceAll(s, "\x00", "\x00\xff") + "\x00\x00" }
	tooLong, tooMany := textOf(long), strings.Repeat("\x01", api.MaxCols+1)
	zeros := strings.Repeat("\x00", api.MaxText)
	decodes(t, "too long", tooLong, nil, api.ErrMany)
	decodes(t, "far too long", textOf(long+long), nil, api.ErrMany)
	decodes(t, "too long of zeros", textOf(zeros+"\x00"), nil, api.ErrMany)
	decodes(t, "too many", tooMany, nil, api.ErrMany)
	decodes(t, "far too many", strings.Repeat(tooMany, 100), nil, api.ErrMany)
	decodes(t, "too many of other types", strings.Repeat(bytes(2, 4, 0, 0, 0, 0, 0, 0, 0, 0, 5, 0, 0), 14), nil, api.ErrMany)
	decodes(t, "too long, then too many", tooLong+tooMany, nil, api.ErrMany)
	decodes(t, "too many, then too long", tooMany+tooLong, nil, api.ErrMany)
	decodes(t, "too long as the one too many", tooMany[1:]+tooLong, nil, api.ErrMany)
	decodes(t, "too long as the last", tooMany[2:]+tooLong, nil, api.ErrMany)
	decodes(t, "too long as the first of many", tooLong+tooMany[1:], nil, api.ErrMany)
	decodes(t, "too long, then right", tooLong+bytes(1), nil, api.ErrMany)
}

// Of bytes that are no value, a value too long and one too many, the leftmost is told.
func TestDecodeTellsTheLeftmost(t *testing.T) {
	tooLong, tooMany := "\x05"+long+"\x00\x00", strings.Repeat("\x01", api.MaxCols+1)
	for _, broken := range []string{"\x00", "\x06", "\x04\x01", "\x05a", "\x05\x00\x01"} {
		decodes(t, "too long, then broken", tooLong+broken, nil, api.ErrMany)
		decodes(t, "too long behind others, then broken", tooMany[2:]+tooLong+broken, nil, api.ErrMany)
		decodes(t, "too many, then broken", tooMany+broken, nil, api.ErrMany)
		decodes(t, "far too many, then broken", tooMany+tooMany+broken, nil, api.ErrMany)
		decodes(t, "too many, too long, then broken", tooMany+tooLong+broken, nil, api.ErrMany)
		decodes(t, "too long, too many, then broken", tooLong+tooMany+broken, nil, api.ErrMany)
		decodes(t, "too long as the one too many, then broken", tooMany[1:]+tooLong+broken, nil, api.ErrMany)
		decodes(t, "broken in the place of the one too many", tooMany[1:]+broken, nil, api.ErrForm)
		decodes(t, "broken in the last place", tooMany[2:]+broken, nil, api.ErrForm)
	}
	for _, broken := range []string{"\x00", "\x06", "\xff", "\x05\x00\x01", "\x05" + long + "\x00\x02"} {
		decodes(t, "broken, then too long", broken+tooLong, nil, api.ErrForm)
		decodes(t, "broken, then too many", broken+tooMany, nil, api.ErrForm)
		decodes(t, "broken in the place of the one too many, then too many", tooMany[1:]+broken+tooMany, nil, api.ErrForm)
	}
	decodes(t, "too long without an end", tooLong[:len(tooLong)-1], nil, api.ErrForm)
	decodes(t, "far too long without an end", "\x05"+strings.Repeat(long, 9), nil, api.ErrForm)
	decodes(t, "too long without an end as the one too many", tooMany[1:]+tooLong[:len(tooLong)-1], nil, api.ErrForm)
	decodes(t, "too long, then too long without an end", tooLong+tooLong[:len(tooLong)-1], nil, api.ErrMany)
}

// P2.3

func TestKey(t *testing.T) {
	r := row(num(7), text("a\x00"), null, yes)
	for _, cols := range [][]int{nil, {}, {0}, {1}, {2}, {3}, {3, 0}, {0, 3}, {1, 1, 1}, {0, 1, 2, 3}, {3, 2, 1, 0}} {
		var picked []api.Value
		for _, c := range cols {
			picked = append(picked, r[c])
		}
		want, err := code.Encode(picked)
		if err != api.OK {
			t.Fatal(err)
		}
		keys(t, "some columns", r, cols, want, api.OK)
	}
	keys(t, "written out", r, []int{3, 1}, bytes(3, 5, 97, 0, 255, 0, 0), api.OK)
	keys(t, "of nothing", nil, nil, "", api.OK)
}

// Of a row only the columns that are asked for must be right, and it may have any number.
func TestKeyLooksAtTheseColumns(t *testing.T) {
	keys(t, "beside odd ones", row(odd, yes, text(long)), []int{1}, bytes(3), api.OK)
	keys(t, "none of odd ones", row(odd), nil, "", api.OK)
	keys(t, "of a wide row", append(many(null, 100), yes), []int{100, 0}, bytes(3, 1), api.OK)
	keys(t, "as many as may be", row(null), make([]int, api.MaxCols), strings.Repeat("\x01", api.MaxCols), api.OK)
}

func TestKeyRefuses(t *testing.T) {
	r := row(num(7), odd, text(long))
	for _, c := range []int{math.MinInt64, -1, 3, 4, math.MaxInt64} {
		keys(t, "not there", r, []int{c}, "", api.ErrArg)
		keys(t, "not there, last", r, []int{0, 0, c}, "", api.ErrArg)
		keys(t, "not there, first", r, []int{c, 0}, "", api.ErrArg)
		keys(t, "behind a value too long", r, []int{2, c}, "", api.ErrArg)
		keys(t, "behind too many", r, append(make([]int, api.MaxCols+1), c), "", api.ErrArg)
		keys(t, "of nothing", nil, []int{c}, "", api.ErrArg)
	}
	keys(t, "the first of nothing", nil, []int{0}, "", api.ErrArg)
	keys(t, "odd", r, []int{0, 1}, "", api.ErrArg)
	keys(t, "too long", r, []int{0, 2}, "", api.ErrMany)
	keys(t, "too long, then odd", r, []int{2, 1}, "", api.ErrMany)
	keys(t, "odd, then too long", r, []int{1, 2}, "", api.ErrArg)
	keys(t, "one too many", r, make([]int, api.MaxCols+1), "", api.ErrMany)
	keys(t, "too many, one odd", r, append(make([]int, api.MaxCols+1), 1), "", api.ErrArg)
}

// P2.4

func TestOrder(t *testing.T) {
	ordered := [][]api.Value{
		nil,
		row(null),
		row(null, null),
		row(null, yes),
		row(null, text("z"), text("z")),
		row(no),
		row(no, text("z")),
		row(yes, null),
		row(num(math.MinInt64)),
		row(num(math.MinInt64), null),
		row(num(-1)),
		row(num(0)),
		row(num(1), num(9)),
		row(num(2), num(1)),
		row(num(math.MaxInt64)),
		row(text("")),
		row(text(""), null),
		row(text("\x00")),
		row(text("\x00\x00")),
		row(text("\x00\xff")),
		row(text("\x01")),
		row(text("a")),
		row(text("a"), num(3)),
		row(text("a\x00")),
		row(text("a\x00"), null),
		row(text("aa")),
		row(text("b")),
		row(text("\xff")),
		row(text("\xff\x00")),
		row(text("\xff\xff")),
	}
	for i, a := range ordered {
		for j, b := range ordered {
			want := 0
			switch {
			case i < j:
				want = -1
			case i > j:
				want = 1
			}
			if got := code.Order(a, b); got != want {
				t.Errorf("Order %v %v: %d, want %d", a, b, got, want)
			}
		}
	}
	if got := code.Order(nil, row()); got != 0 {
		t.Errorf("Order of two without values: %d", got)
	}
	wide := many(null, 1000)
	if got := code.Order(wide, wide[:999]); got != 1 {
		t.Errorf("Order of wide rows: %d", got)
	}
}
