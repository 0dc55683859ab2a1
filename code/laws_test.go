package code_test

import (
	"math"
	"math/rand"
	"slices"
	"strings"
	"testing"

	"cordon/api"
	"cordon/code"
	"cordon/value"
)

// rightValues are right values of each type, with the edges that the chapter names.
func rightValues() []api.Value {
	out := []api.Value{null, no, yes}
	for _, n := range []int{math.MinInt64, math.MinInt64 + 1, -257, -256, -1, 0, 1, 255, 256, math.MaxInt64 - 1, math.MaxInt64} {
		out = append(out, num(n))
	}
	for _, s := range []string{"", "\x00", "\x00\x00", "\x00\x01", "\x00\xff", "\x01", "a", "a\x00", "ab", "\xff", "\xff\x00", "\xff\xff", full, full[1:]} {
		out = append(out, text(s))
	}
	return out
}

func wrongValues() []api.Value {
	out := []api.Value{text(long), text(long + long), odd}
	for _, n := range []int{math.MinInt64, -1, 1, 2, math.MaxInt64} {
		out = append(out, api.Value{N: n}, api.Value{Type: api.TyText, N: n}, api.Value{Type: -1, N: n})
		if n != 1 {
			out = append(out, api.Value{Type: api.TyBool, N: n})
		}
	}
	for _, kind := range []int{math.MinInt64, -1, api.TyNull, api.TyBool, api.TyInt, 4, math.MaxInt64} {
		out = append(out, api.Value{Type: kind, S: "x"}, api.Value{Type: kind, S: long})
	}
	return out
}

// rightRows are all rows of up to two values, and some longer ones, of which many are beginnings of others.
func rightRows() [][]api.Value {
	out := [][]api.Value{nil}
	values := rightValues()
	for _, a := range values {
		out = append(out, row(a))
		for _, b := range values {
			out = append(out, row(a, b))
		}
	}
	r := rand.New(rand.NewSource(2))
	for range 200 {
		var long []api.Value
		for range r.Intn(api.MaxCols + 1) {
			long = append(long, randomValue(r))
		}
		out = append(out, long, long[:len(long)/2])
	}
	return append(out, many(null, api.MaxCols), many(text(full), api.MaxCols))
}

func randomValue(r *rand.Rand) api.Value {
	switch r.Intn(6) {
	case 0:
		return null
	case 1:
		return value.Bool(r.Intn(2) == 1)
	case 2:
		return num(int(r.Uint64()))
	case 3:
		return num(r.Intn(5) - 2)
	}
	s := make([]byte, r.Intn(6))
	for i := range s {
		s[i] = []byte{0, 0, 1, 5, 97, 254, 255, 255}[r.Intn(8)]
	}
	return text(string(s))
}

func encoded(t *testing.T, r []api.Value) string {
	t.Helper()
	s, err := code.Encode(r)
	if err != api.OK {
		t.Fatalf("%v is refused: %v", r, err)
	}
	return s
}

// P2.5

func TestBack(t *testing.T) {
	for _, r := range rightRows() {
		decodes(t, "of Encode", encoded(t, r), r, api.OK)
	}
}

// Of every short text either there is no row, or its bytes are the text.
func TestBackOfTexts(t *testing.T) {
	letters := []byte{0, 1, 2, 3, 4, 5, 6, 97, 255}
	count := 0
	var grow func(s []byte, left int)
	grow = func(s []byte, left int) {
		if r, err := code.Decode(string(s)); err == api.OK {
			count++
			encodes(t, "of Decode", r, string(s), api.OK)
		} else if err != api.ErrForm || r != nil {
			t.Errorf("Decode of %v: %v %v", s, r, err)
		}
		if left > 0 {
			for _, b := range letters {
				grow(append(slices.Clip(s), b), left-1)
			}
		}
	}
	grow(nil, 5)
	if want := shortRows(5); count != want {
		t.Errorf("%d short texts are rows, want %d", count, want)
	}
}

// shortRows is how many rows there are whose bytes are at most so many, of the nine letters above: too few for a number.
func shortRows(length int) int {
	// body[n] is how many texts take n bytes ahead of their end: a letter that is not 0 takes one, a 0 two.
	body := make([]int, length+1)
	body[0] = 1
	for n := 1; n <= length; n++ {
		body[n] = 8 * body[n-1]
		if n >= 2 {
			body[n] += body[n-2]
		}
	}
	rows, all := make([]int, length+1), 0
	rows[0] = 1
	for n := range length + 1 {
		for size := 1; size <= n; size++ {
			kinds := 0
			if size == 1 {
				kinds = 3
			}
			if size >= 3 {
				kinds += body[size-3]
			}
			rows[n] += kinds * rows[n-size]
		}
		all += rows[n]
	}
	return all
}

// P2.6, P2.7

func TestOrderOfBytes(t *testing.T) {
	rows := rightRows()
	texts := make([]string, len(rows))
	for i, r := range rows {
		texts[i] = encoded(t, r)
	}
	for i, a := range rows {
		for j, b := range rows {
			if got, want := strings.Compare(texts[i], texts[j]), code.Order(a, b); got != want {
				t.Fatalf("%v and %v: bytes stand %d, rows %d", a, b, got, want)
			}
			if (texts[i] == texts[j]) != slices.Equal(a, b) {
				t.Fatalf("%v and %v: are the bytes the same? %v", a, b, texts[i] == texts[j])
			}
		}
	}
}

// Bytes may be put behind one another: so a key's bytes ahead of a row's stand as both do.
func TestOrderOfBytesTogether(t *testing.T) {
	r := rand.New(rand.NewSource(6))
	some := func() []api.Value {
		var out []api.Value
		for range r.Intn(4) {
			out = append(out, randomValue(r))
		}
		return out
	}
	for range 20000 {
		a, b := some(), some()
		if r.Intn(2) == 0 {
			b = append(slices.Clone(a), some()...)
		}
		if got, want := strings.Compare(encoded(t, a), encoded(t, b)), code.Order(a, b); got != want {
			t.Fatalf("%v and %v: bytes stand %d, rows %d", a, b, got, want)
		}
	}
}

// P1, P2 and the rules that hold everywhere.

func TestNeverPanics(t *testing.T) {
	values := append(rightValues(), wrongValues()...)
	for _, a := range values {
		for _, b := range values {
			r := row(a, b)
			s, err := code.Encode(r)
			if err != api.OK && s != "" {
				t.Errorf("Encode of %v: %q beside %v", r, s, err)
			}
			if o, back := code.Order(row(a), r), code.Order(r, row(a)); o != -1 || back != 1 {
				t.Errorf("Order of %v and its beginning: %d %d", r, o, back)
			}
			if o, back := code.Order(row(a), row(b)), code.Order(row(b), row(a)); o != value.Order(a, b) || back != -o {
				t.Errorf("Order of %v and %v: %d %d", a, b, o, back)
			}
			for _, c := range []int{math.MinInt64, -1, 0, 1, 2, math.MaxInt64} {
				if s, err := code.Key(r, []int{1, c}); err != api.OK && s != "" {
					t.Errorf("Key of %v: %q beside %v", r, s, err)
				}
			}
		}
	}
	r := rand.New(rand.NewSource(1))
	for range 50000 {
		s := make([]byte, r.Intn(30))
		for i := range s {
			s[i] = byte(r.Intn(7))
			if r.Intn(8) == 0 {
				s[i] = byte(r.Intn(256))
			}
		}
		if got, err := code.Decode(string(s)); err != api.OK && len(got) != 0 {
			t.Errorf("Decode of %v: %v beside %v", s, got, err)
		}
	}
}

func TestChangesNothing(t *testing.T) {
	r, cols := row(num(1), text("a\x00"), yes, odd, text(long)), []int{2, 0, 1}
	keptRow, keptCols := slices.Clone(r), slices.Clone(cols)
	first, _ := code.Key(r, cols)
	code.Encode(r)
	code.Encode(r[:3])
	code.Key(r, []int{4})
	code.Key(r, []int{7})
	code.Order(r, r[:2])
	if !slices.Equal(r, keptRow) || !slices.Equal(cols, keptCols) {
		t.Errorf("now %v %v", r, cols)
	}
	if again, _ := code.Key(r, cols); again != first {
		t.Errorf("Key: %q, then %q", first, again)
	}
}

// What Decode hands out is the caller's own.
func TestAnswersAreOwn(t *testing.T) {
	s := encoded(t, row(num(1), text("a"), null))
	a, _ := code.Decode(s)
	b, _ := code.Decode(s)
	a[0], a[1] = odd, odd
	a = append(a[:1], odd, odd, odd)
	decodes(t, "again", s, b, api.OK)
	if a[1] != odd || b[0] != num(1) || b[1] != text("a") || b[2] != null {
		t.Errorf("now %v", b)
	}
}

func TestSignatures(t *testing.T) {
	var (
		_ func([]api.Value) (string, api.Errno)        = code.Encode
		_ func(string) ([]api.Value, api.Errno)        = code.Decode
		_ func([]api.Value, []int) (string, api.Errno) = code.Key
		_ func([]api.Value, []api.Value) int           = code.Order
	)
}
