package token_test

import (
	"math"
	"math/rand"
	"regexp"
	"slices"
	"strconv"
	"strings"
	"testing"

	"cordon/api"
	"cordon/token"
)

// answer is what Scan answers.
type answer struct {
	tokens []api.Token
	at     int
	err    api.Errno
}

func scan(s string) answer {
	tokens, at, err := token.Scan(s)
	return answer{tokens, at, err}
}

func same(a, b answer) bool {
	return slices.Equal(a.tokens, b.tokens) && a.at == b.at && a.err == b.err
}

// The words of the chapter as patterns. An open text stops ahead of the ' that ends it, if there is one.
var (
	passedOver = regexp.MustCompile(`^([ \t\n\r]|--[^\n]*)*`)
	aName      = regexp.MustCompile(`^[a-zA-Z_][a-zA-Z0-9_]*`)
	aNumber    = regexp.MustCompile(`^[0-9]+`)
	openText   = regexp.MustCompile(`^'([^']|'')*`)
	aMark      = regexp.MustCompile(`^(\|\||<>|<=|>=|[(),;.*+/%=<>{}:-])`)
	notInText  = regexp.MustCompile(`[\x00-\x09\x0b-\x1f]`)
)

// byHand is what the chapter says that Scan answers, found by patterns.
func byHand(s string) answer {
	if len(s) > api.MaxSource {
		return answer{err: api.ErrMany}
	}
	var out []api.Token
	for at := 0; ; {
		at += len(passedOver.FindString(s[at:]))
		k, size, ok := oneByHand(s[at:])
		if !ok {
			return answer{at: at + size, err: api.ErrForm}
		}
		if len(out)+1 > api.MaxTokens {
			return answer{at: at, err: api.ErrMany}
		}
		k.At = at
		out = append(out, k)
		if k.Kind == api.TkEnd {
			return answer{tokens: out}
		}
		at += size
	}
}

// oneByHand is the first token and its bytes' number; or, if it may not be, the place.
func oneByHand(s string) (api.Token, int, bool) {
	if s == "" {
		return api.Token{}, 0, true
	}
	if m := aName.FindString(s); m != "" {
		return api.Token{Kind: api.TkName, Text: m}, len(m) * fits(m, api.MaxName), fits(m, api.MaxName) == 1
	}
	if m := aNumber.FindString(s); m != "" {
		n, _ := strconv.Atoi(m)
		return api.Token{Kind: api.TkInt, Text: m, N: n}, len(m) * fits(m, maxDigits), fits(m, maxDigits) == 1
	}
	if m := aMark.FindString(s); m != "" {
		return api.Token{Kind: api.TkMark, Text: m}, len(m), true
	}
	m := openText.FindString(s)
	if m == "" || m == s {
		return api.Token{}, 0, false
	}
	said := strings.Join(strings.Split(m[1:], "''"), "'")
	if len(said) > api.MaxText {
		return api.Token{}, 0, false
	}
	if bad := notInText.FindStringIndex(m); bad != nil {
		return api.Token{}, bad[0], false
	}
	return api.Token{Kind: api.TkText, Text: said}, len(m) + 1, true
}

func fits(s string, most int) int {
	if len(s) > most {
		return 0
	}
	return 1
}

func scansByHand(t *testing.T, s string) {
	t.Helper()
	if got, want := scan(s), byHand(s); !same(got, want) {
		t.Errorf("Scan %q: %v %d %v, want %v %d %v", short(s), head(got.tokens), got.at, got.err, head(want.tokens), want.at, want.err)
	}
}

// shortTexts are all texts of up to n of some bytes.
func shortTexts(letters string, n int) []string {
	out := []string{""}
	last := out
	for range n {
		var longer []string
		for _, s := range last {
			for i := range len(letters) {
				longer = append(longer, s+letters[i:i+1])
			}
		}
		out, last = append(out, longer...), longer
	}
	return out
}

func TestShortTexts(t *testing.T) {
	for _, letters := range []string{"a1' -\n\x01", "<>=|-\n", "'\n\x01-a", "_Z0. '", "\x00\t\r\xff'-"} {
		for _, s := range shortTexts(letters, 6) {
			scansByHand(t, s)
		}
	}
	var all []byte
	for b := range 256 {
		all = append(all, byte(b))
	}
	for _, s := range shortTexts(string(all), 2) {
		scansByHand(t, s)
		scansByHand(t, "'"+s+"'")
		scansByHand(t, "a--"+s+"b\nc")
	}
}

// pieces are put together to texts: right ones, ones at the edges and beyond them, what is passed over, and what may not be.
func pieces() []string {
	out := append(strings.Fields(words), strings.Fields(marks)...)
	out = append(out, gaps()...)
	out = append(out, "a", "_x1", "0", "42", "'a'", "''", "''''", "'a''b'", "'\n'", "--", "\n", " ", "'", "|", "\x00", "'\x01'", "é", "\xff", "!", "\"")
	for _, more := range []int{0, 1} {
		out = append(out, strings.Repeat("n", api.MaxName+more), strings.Repeat("7", maxDigits+more),
			"'"+strings.Repeat("x", api.MaxText+more)+"'", "'"+strings.Repeat("''", api.MaxText+more)+"'")
	}
	return out
}

func randomText(r *rand.Rand, from []string, n int) string {
	var out strings.Builder
	for range r.Intn(n + 1) {
		out.WriteString(from[r.Intn(len(from))])
	}
	return out.String()
}

func TestRandomTexts(t *testing.T) {
	r := rand.New(rand.NewSource(5))
	all := pieces()
	for range 20000 {
		s := randomText(r, all, 8)
		scansByHand(t, s)
		b := []byte(s)
		for i := range b {
			if r.Intn(10) == 0 {
				b[i] = byte(r.Intn(256))
			}
		}
		scansByHand(t, string(b))
	}
	few := []string{",", "a ", "1 ", "''", "<=", " ", "--\n"}
	for range 200 {
		scansByHand(t, randomText(r, few, 2*api.MaxTokens))
	}
}

// P5.4

// endsInRemark tells whether a text without an error ends within what is passed over to the line's end: a token behind it is passed over, too.
func endsInRemark(s string) bool {
	return len(scan(s+" 0").tokens) == len(scan(s).tokens)
}

func joins(t *testing.T, a, b string) {
	t.Helper()
	first, second, both := scan(a), scan(b), scan(a+" "+b)
	if first.err != api.OK || endsInRemark(a) {
		t.Fatalf("%q may not stand first", a)
	}
	by := len(a) + 1
	want := answer{at: second.at + by, err: second.err}
	if second.err == api.OK {
		want.at = 0
		want.tokens = slices.Clone(first.tokens[:len(first.tokens)-1])
		for _, k := range second.tokens {
			want.tokens = append(want.tokens, moved(k, by))
		}
	}
	if !same(both, want) {
		t.Errorf("Scan %q and %q: %v %d %v, want %v %d %v", short(a), short(b), head(both.tokens), both.at, both.err, head(want.tokens), want.at, want.err)
	}
}

func TestJoined(t *testing.T) {
	texts := append(shortTexts("a1'-<=\n\x01", 3), gaps()...)
	texts = append(texts, "a<=1", "select a as x from t", "-- x", "-- x\n", "a --", "'it''s'", "1 '", "'a'''", "{ skip; }", "|")
	count := 0
	for _, a := range texts {
		if scan(a).err != api.OK || endsInRemark(a) {
			continue
		}
		count++
		for _, b := range texts {
			joins(t, a, b)
		}
	}
	if count < 100 {
		t.Errorf("%d texts stood first", count)
	}
}

func TestJoinedAtRandom(t *testing.T) {
	r := rand.New(rand.NewSource(54))
	all := pieces()
	for range 20000 {
		a, b := randomText(r, all, 6), randomText(r, all, 6)
		if scan(a).err == api.OK && !endsInRemark(a) {
			joins(t, a, b)
		}
	}
	a, _ := commas(api.MaxTokens / 2)
	b, _ := commas(api.MaxTokens/2 - 1)
	joins(t, a, b)
	joins(t, b, a)
	refuses(t, a+" "+a, api.MaxTokens+1, api.ErrMany)
}

// What the law leaves out: behind two - the second text is passed over to its first line's end.
func TestJoinedWithinRemark(t *testing.T) {
	scans(t, "a --"+" "+"b", name("a", 0), end(6))
	scans(t, "a --"+" "+"b\nc", name("a", 0), name("c", 7), end(8))
	scans(t, "a --\n"+" "+"b", name("a", 0), name("b", 6), end(7))
}

// P5.5

// laidOut is tokens with blanks between, and what is to be scanned.
func laidOut(kinds []int, texts []string, blanks func() string) (string, []api.Token) {
	s := blanks()
	var want []api.Token
	for i, k := range kinds {
		if i > 0 {
			s += " " + blanks()
		}
		n := 0
		if k == api.TkInt {
			n, _ = strconv.Atoi(texts[i])
		}
		want = append(want, api.Token{Kind: k, Text: texts[i], N: n, At: len(s)})
		s += texts[i]
	}
	s += blanks()
	return s, append(want, end(len(s)))
}

// plain are marks, names and numbers.
func plain() (kinds []int, texts []string) {
	add := func(kind int, l ...string) {
		for _, s := range l {
			kinds, texts = append(kinds, kind), append(texts, s)
		}
	}
	add(api.TkMark, strings.Fields(marks)...)
	add(api.TkName, strings.Fields(words)...)
	add(api.TkName, "a", "Z", "_", "a1", "_0", "SELECT", "x_y_z", strings.Repeat("m", api.MaxName))
	add(api.TkInt, "0", "1", "00", "007", "10", strings.Repeat("9", maxDigits), strings.Repeat("0", maxDigits))
	return kinds, texts
}

func TestBack(t *testing.T) {
	kinds, texts := plain()
	none := func() string { return "" }
	for i := range texts {
		for j := range texts {
			s, want := laidOut([]int{kinds[i], kinds[j]}, []string{texts[i], texts[j]}, none)
			scans(t, s, want...)
		}
	}
	s, want := laidOut(kinds, texts, none)
	scans(t, s, want...)
	r := rand.New(rand.NewSource(55))
	some := func() string { return strings.Repeat(" ", r.Intn(3)) }
	for range 2000 {
		var ks []int
		var ts []string
		for range r.Intn(40) {
			i := r.Intn(len(kinds))
			ks, ts = append(ks, kinds[i]), append(ts, texts[i])
		}
		s, want := laidOut(ks, ts, some)
		scans(t, s, want...)
	}
}

// What was scanned, written again with a blank between, is scanned so again.
func TestBackOfTexts(t *testing.T) {
	r := rand.New(rand.NewSource(56))
	_, texts := plain()
	from := append(texts, " ", "\n", "-- x\n", "\t")
	for range 5000 {
		first := scan(randomText(r, from, 12))
		if first.err != api.OK {
			continue
		}
		var ks []int
		var ts []string
		for _, k := range first.tokens[:len(first.tokens)-1] {
			ks, ts = append(ks, k.Kind), append(ts, k.Text)
		}
		s, want := laidOut(ks, ts, func() string { return "" })
		scans(t, s, want...)
	}
}

// P1 and P2

// Beside an error there is nothing, without one no place, whatever the bytes.
func TestAnswers(t *testing.T) {
	r := rand.New(rand.NewSource(1))
	for range 20000 {
		b := make([]byte, r.Intn(40))
		for i := range b {
			b[i] = byte(r.Intn(256))
			if r.Intn(2) == 0 {
				b[i] = "'-<>=|a1 \n"[r.Intn(10)]
			}
		}
		s := string(b)
		got := scan(s)
		switch {
		case got.err == api.OK && (got.at != 0 || len(got.tokens) == 0 || got.tokens[len(got.tokens)-1] != end(len(s))):
			t.Errorf("Scan %q: %v %d", s, got.tokens, got.at)
		case got.err != api.OK && (got.err != api.ErrForm || len(got.tokens) != 0 || got.at < 0 || got.at >= len(s)):
			t.Errorf("Scan %q: %v %d %v", s, got.tokens, got.at, got.err)
		}
		at := r.Intn(60) - 10
		if line, col := token.Line(s, at); line < 1 || col < 1 || line+col > len(s)+2 {
			t.Errorf("Line %q %d: %d %d", s, at, line, col)
		}
		token.Line(s, math.MinInt+r.Intn(2))
		token.Line(s, math.MaxInt-r.Intn(2))
		if token.Word(s) && !slices.Contains(strings.Fields(words), s) {
			t.Errorf("Word %q", s)
		}
	}
}

// What is answered is the caller's own, and no call hangs on one ahead of it.
func TestNothingIsKept(t *testing.T) {
	const s = "select a <= 1 'x' ;"
	first := scan(s)
	kept := slices.Clone(first.tokens)
	for i := range first.tokens {
		first.tokens[i] = api.Token{Kind: -1, Text: "changed", N: -1, At: -1}
	}
	for _, other := range []string{"|", "'", "", "a b c", strings.Repeat(" ", api.MaxSource+1), strings.Repeat(",", api.MaxTokens+1)} {
		scan(other)
		if again := scan(s); !same(again, answer{tokens: kept}) {
			t.Errorf("Scan behind Scan %q: %v %d %v", short(other), again.tokens, again.at, again.err)
		}
	}
}
