package token_test

import (
	"math"
	"slices"
	"strings"
	"testing"

	"cordon/api"
	"cordon/token"
)

const (
	words = "all and as begin begins between by call case catch commit delete desc distinct else end except exists for from group having hide if in input insert int into intersect is join key left level levels limit not null on or order principal print proc raise rollback rows select set table text then true try false bool union update values var visible when where while channel skip"

	marks = "|| <> <= >= ( ) , ; . * + - / % = < > { } :"

	maxDigits = 18
)

func name(s string, at int) api.Token { return api.Token{Kind: api.TkName, Text: s, At: at} }

func num(s string, n, at int) api.Token { return api.Token{Kind: api.TkInt, Text: s, N: n, At: at} }

func text(s string, at int) api.Token { return api.Token{Kind: api.TkText, Text: s, At: at} }

func mark(s string, at int) api.Token { return api.Token{Kind: api.TkMark, Text: s, At: at} }

func end(at int) api.Token { return api.Token{Kind: api.TkEnd, At: at} }

// short is a text for people: the front of it, if it is long.
func short(s string) string {
	if len(s) > 60 {
		return s[:60] + ".."
	}
	return s
}

// head is likewise the front of tokens.
func head(l []api.Token) []api.Token {
	out := slices.Clone(l[:min(len(l), 12)])
	for i := range out {
		out[i].Text = short(out[i].Text)
	}
	return out
}

func scans(t *testing.T, s string, want ...api.Token) {
	t.Helper()
	got, at, err := token.Scan(s)
	if !slices.Equal(got, want) || at != 0 || err != api.OK {
		t.Errorf("Scan %q: %v (%d tokens) %d %v, want %v (%d tokens)", short(s), head(got), len(got), at, err, head(want), len(want))
	}
}

func refuses(t *testing.T, s string, wantAt int, wantErr api.Errno) {
	t.Helper()
	got, at, err := token.Scan(s)
	if len(got) != 0 || at != wantAt || err != wantErr {
		t.Errorf("Scan %q (%d bytes): %d tokens, %d %v, want none, %d %v", short(s), len(s), len(got), at, err, wantAt, wantErr)
	}
}

// P5.1

func TestScan(t *testing.T) {
	scans(t, "a<=1", name("a", 0), mark("<=", 1), num("1", 1, 3), end(4))
	scans(t, "", end(0))
	scans(t, "select a as x from t where a <> 'it''s';",
		name("select", 0), name("a", 7), name("as", 9), name("x", 12), name("from", 14), name("t", 19), name("where", 21),
		name("a", 27), mark("<>", 29), text("it's", 32), mark(";", 39), end(40))
	scans(t, "print out :v || 'x' ; -- tells\n  raise;\n",
		name("print", 0), name("out", 6), mark(":", 10), name("v", 11), mark("||", 13), text("x", 16), mark(";", 20),
		name("raise", 33), mark(";", 38), end(40))
	scans(t, "{x=-12%3*(y+4)/5.0,Z_9}",
		mark("{", 0), name("x", 1), mark("=", 2), mark("-", 3), num("12", 12, 4), mark("%", 6), num("3", 3, 7), mark("*", 8),
		mark("(", 9), name("y", 10), mark("+", 11), num("4", 4, 12), mark(")", 13), mark("/", 14), num("5", 5, 15), mark(".", 16),
		num("0", 0, 17), mark(",", 18), name("Z_9", 19), mark("}", 22), end(23))
}

func TestScanWords(t *testing.T) {
	for _, w := range strings.Fields(words) {
		scans(t, w, name(w, 0), end(len(w)))
		scans(t, "("+w+")", mark("(", 0), name(w, 1), mark(")", 1+len(w)), end(2+len(w)))
	}
}

func TestScanMarks(t *testing.T) {
	for _, m := range strings.Fields(marks) {
		scans(t, m, mark(m, 0), end(len(m)))
		scans(t, "a"+m+"1", name("a", 0), mark(m, 1), num("1", 1, 1+len(m)), end(2+len(m)))
		scans(t, "'x'"+m+"'y'", text("x", 0), mark(m, 3), text("y", 3+len(m)), end(6+len(m)))
	}
}

// Of marks side by side the longest is taken, from the left.
func TestScanLongestMark(t *testing.T) {
	scans(t, "<<", mark("<", 0), mark("<", 1), end(2))
	scans(t, "<>", mark("<>", 0), end(2))
	scans(t, "><", mark(">", 0), mark("<", 1), end(2))
	scans(t, ">>", mark(">", 0), mark(">", 1), end(2))
	scans(t, "=<", mark("=", 0), mark("<", 1), end(2))
	scans(t, "=>", mark("=", 0), mark(">", 1), end(2))
	scans(t, "==", mark("=", 0), mark("=", 1), end(2))
	scans(t, "<=>", mark("<=", 0), mark(">", 2), end(3))
	scans(t, "<>=", mark("<>", 0), mark("=", 2), end(3))
	scans(t, "<<=", mark("<", 0), mark("<=", 1), end(3))
	scans(t, "<>>=", mark("<>", 0), mark(">=", 2), end(4))
	scans(t, ">==", mark(">=", 0), mark("=", 2), end(3))
	scans(t, "||||", mark("||", 0), mark("||", 2), end(4))
	scans(t, "< >", mark("<", 0), mark(">", 2), end(3))
	scans(t, "< =", mark("<", 0), mark("=", 2), end(3))
	scans(t, "> =", mark(">", 0), mark("=", 2), end(3))
	scans(t, "<\n=", mark("<", 0), mark("=", 2), end(3))
	scans(t, "<--\n=", mark("<", 0), mark("=", 4), end(5))
	scans(t, "- -", mark("-", 0), mark("-", 2), end(3))
	scans(t, "-", mark("-", 0), end(1))
	scans(t, "->", mark("-", 0), mark(">", 1), end(2))
	refuses(t, "|", 0, api.ErrForm)
	refuses(t, "| |", 0, api.ErrForm)
	refuses(t, "|||", 2, api.ErrForm)
	refuses(t, "a|b", 1, api.ErrForm)
	refuses(t, "||a|", 3, api.ErrForm)
	refuses(t, "|=", 0, api.ErrForm)
	refuses(t, "<|", 1, api.ErrForm)
	refuses(t, "<!", 1, api.ErrForm)
	refuses(t, "!=", 0, api.ErrForm)
}

// gaps are what may stand between tokens.
func gaps() []string {
	return []string{" ", "\t", "\n", "\r", "\r\n", "   \t\t\r\r\n\n ", " --\n", "\n--\n", "\t-- a 'b 1 || \x00\x01\x1f\x7f\x80\xff | !\n", " ---\n", " ----\n \n",
		"\n--a\n--b\n", " --\r-- x\n", " -- " + strings.Repeat("x", 2*api.MaxText) + "\n", " --;'\n\t--'\n\r"}
}

// ones are tokens of each kind, as they are written, with what they are at the place 0.
func ones() map[string]api.Token {
	out := map[string]api.Token{
		"a": name("a", 0), "_": name("_", 0), "Z9": name("Z9", 0), "select": name("select", 0),
		"0": num("0", 0, 0), "42": num("42", 42, 0),
		"''": text("", 0), "'x'": text("x", 0), "'--'": text("--", 0), "''''": text("'", 0), "'\n'": text("\n", 0),
	}
	for _, m := range strings.Fields(marks) {
		out[m] = mark(m, 0)
	}
	return out
}

func moved(k api.Token, by int) api.Token {
	k.At += by
	return k
}

func TestPassedOver(t *testing.T) {
	all := ones()
	for a, first := range all {
		for b, second := range all {
			for _, g := range gaps() {
				at := len(a) + len(g)
				scans(t, a+g+b, first, moved(second, at), end(at+len(b)))
			}
			if a != "-" { // behind that one they are three -, which are none of it
				scans(t, a+"--'|\n"+b, first, moved(second, len(a)+5), end(len(a)+5+len(b)))
			}
		}
	}
	for a, one := range all {
		for _, g := range gaps() {
			scans(t, g+a, moved(one, len(g)), end(len(g)+len(a)))
			scans(t, a+g, one, end(len(a)+len(g)))
			scans(t, a+g+"--", one, end(len(a)+len(g)+2))
			scans(t, a+g+"-- the 'end", one, end(len(a)+len(g)+11))
			scans(t, a+g+"--\x00|", one, end(len(a)+len(g)+4))
		}
	}
	for _, g := range gaps() {
		scans(t, g, end(len(g)))
		scans(t, g+g, end(2*len(g)))
	}
}

// Two - side by side begin what is passed over wherever a token could begin, and nowhere else.
func TestRemarks(t *testing.T) {
	scans(t, "--", end(2))
	scans(t, "---", end(3))
	scans(t, "--a", end(3))
	scans(t, "--a\rb", end(5))
	scans(t, "--a\n", end(4))
	scans(t, "--a\nb", name("b", 4), end(5))
	scans(t, "--\n-", mark("-", 3), end(4))
	scans(t, "a--b", name("a", 0), end(4))
	scans(t, "a--b\nc", name("a", 0), name("c", 5), end(6))
	scans(t, "1--2\n3", num("1", 1, 0), num("3", 3, 5), end(6))
	scans(t, "'a'--'\n'b'", text("a", 0), text("b", 7), end(10))
	scans(t, "---x\n-y", mark("-", 5), name("y", 6), end(7))
	scans(t, "- --x\n-", mark("-", 0), mark("-", 6), end(7))
	scans(t, "-\n-", mark("-", 0), mark("-", 2), end(3))
	scans(t, "'--'", text("--", 0), end(4))
	scans(t, "'a--\nb'", text("a--\nb", 0), end(7))
	scans(t, "'--\n'--\n'--'", text("--\n", 0), text("--", 8), end(12))
	refuses(t, "--|\n|", 4, api.ErrForm)
	refuses(t, "--'\n'", 4, api.ErrForm)
}

func TestNames(t *testing.T) {
	letters := "abcdefghijklmnopqrstuvwxyzABCDEFGHIJKLMNOPQRSTUVWXYZ_"
	for i := range len(letters) {
		c := letters[i : i+1]
		scans(t, c, name(c, 0), end(1))
		scans(t, "x"+c+"0", name("x"+c+"0", 0), end(3))
	}
	scans(t, "a0123456789", name("a0123456789", 0), end(11))
	scans(t, "__", name("__", 0), end(2))
	scans(t, "_1", name("_1", 0), end(2))
	scans(t, "SELECT Select", name("SELECT", 0), name("Select", 7), end(13))
	scans(t, "selecta", name("selecta", 0), end(7))
	for _, c := range []string{"x", "X", "_", "z9"} {
		full := strings.Repeat(c, api.MaxName/len(c))
		scans(t, full, name(full, 0), end(api.MaxName))
		scans(t, " "+full+" "+full, name(full, 1), name(full, api.MaxName+2), end(2*api.MaxName+2))
		scans(t, full+"+1", name(full, 0), mark("+", api.MaxName), num("1", 1, api.MaxName+1), end(api.MaxName+2))
		for _, more := range []string{"a", "Z", "_", "0", full, strings.Repeat("a", 10000)} {
			refuses(t, full+more, 0, api.ErrForm)
			refuses(t, "1 "+full+more+" b", 2, api.ErrForm)
			refuses(t, "b("+full+more+"|", 2, api.ErrForm)
		}
	}
	refuses(t, "é", 0, api.ErrForm)
	refuses(t, "aé", 1, api.ErrForm)
	refuses(t, strings.Repeat("a", api.MaxName)+"é", api.MaxName, api.ErrForm)
}

func TestNumbers(t *testing.T) {
	for c := range 10 {
		s := string(rune('0' + c))
		scans(t, s, num(s, c, 0), end(1))
		scans(t, "1"+s, num("1"+s, 10+c, 0), end(2))
	}
	nines, zeros := strings.Repeat("9", maxDigits), strings.Repeat("0", maxDigits)
	scans(t, "1234567890", num("1234567890", 1234567890, 0), end(10))
	scans(t, "00", num("00", 0, 0), end(2))
	scans(t, "007", num("007", 7, 0), end(3))
	scans(t, nines, num(nines, 999999999999999999, 0), end(maxDigits))
	scans(t, zeros, num(zeros, 0, 0), end(maxDigits))
	scans(t, zeros[1:]+"5", num(zeros[1:]+"5", 5, 0), end(maxDigits))
	scans(t, "123456789012345678", num("123456789012345678", 123456789012345678, 0), end(maxDigits))
	scans(t, "a "+nines+"a", name("a", 0), num(nines, 999999999999999999, 2), name("a", 2+maxDigits), end(3+maxDigits))
	for _, full := range []string{nines, zeros, "1" + zeros[1:]} {
		for _, more := range []string{"0", "9", full, strings.Repeat("1", 10000)} {
			refuses(t, full+more, 0, api.ErrForm)
			refuses(t, "0"+full, 0, api.ErrForm)
			refuses(t, "a - "+full+more+" 1", 4, api.ErrForm)
			refuses(t, "'1'"+full+more+"'", 3, api.ErrForm)
		}
	}
	scans(t, "-1", mark("-", 0), num("1", 1, 1), end(2))
	scans(t, "1.5", num("1", 1, 0), mark(".", 1), num("5", 5, 2), end(3))
}

func TestTexts(t *testing.T) {
	scans(t, "''", text("", 0), end(2))
	scans(t, "'a'", text("a", 0), end(3))
	scans(t, "''''", text("'", 0), end(4))
	scans(t, "''''''", text("''", 0), end(6))
	scans(t, "'a'''", text("a'", 0), end(5))
	scans(t, "'''a'", text("'a", 0), end(5))
	scans(t, "'a''b'", text("a'b", 0), end(6))
	scans(t, "'a''''b'", text("a''b", 0), end(8))
	scans(t, "'a' 'b'", text("a", 0), text("b", 4), end(7))
	scans(t, "'' ''", text("", 0), text("", 3), end(5))
	scans(t, "''\n''", text("", 0), text("", 3), end(5))
	scans(t, "'a\nb\n'", text("a\nb\n", 0), end(6))
	scans(t, "'select 1 <= | ! \"x\" \\'", text("select 1 <= | ! \"x\" \\", 0), end(23))
	scans(t, "'\\'", text("\\", 0), end(3))
	scans(t, "'\\'''", text("\\'", 0), end(5))
}

func TestTextsOfMaxText(t *testing.T) {
	x, q := strings.Repeat("x", api.MaxText), strings.Repeat("''", api.MaxText)
	scans(t, "'"+x+"'", text(x, 0), end(api.MaxText+2))
	scans(t, "'"+q+"'", text(q[:api.MaxText], 0), end(2*api.MaxText+2))
	scans(t, "'"+x[2:]+"''''' b", text(x[2:]+"''", 0), name("b", api.MaxText+5), end(api.MaxText+6))
	scans(t, "a '"+x[1:]+"\n'", name("a", 0), text(x[1:]+"\n", 2), end(api.MaxText+4))
	scans(t, "'"+strings.Repeat("\xff", api.MaxText)+"'", text(strings.Repeat("\xff", api.MaxText), 0), end(api.MaxText+2))
	for _, long := range []string{x + "x", x + "''", "''" + x, q + "''", q + "x", x + "\n", x + x, q + q} {
		refuses(t, "'"+long+"'", 0, api.ErrForm)
		refuses(t, " a('"+long+"')", 3, api.ErrForm)
		refuses(t, "'"+x+"' '"+long+"'|", api.MaxText+3, api.ErrForm)
	}
}

func TestTextsWithoutAnEnd(t *testing.T) {
	for _, s := range []string{"'", "'a", "'''", "'a''", "'a''b", "'''''", "'a''''", "'''a''", "'\\''", "'\n", "'a\n'' b", "'--", "'" + strings.Repeat("x", api.MaxText),
		"'" + strings.Repeat("x", api.MaxText+1), "'" + strings.Repeat("''", api.MaxText+1), "'" + strings.Repeat("x", 15000)} {
		refuses(t, s, 0, api.ErrForm)
		refuses(t, "a "+s, 2, api.ErrForm)
		refuses(t, "12"+s, 2, api.ErrForm)
		refuses(t, "'b' "+s, 4, api.ErrForm)
		refuses(t, "--'\n<="+s, 6, api.ErrForm)
	}
	refuses(t, "'a' '", 4, api.ErrForm)
	refuses(t, "'a'b'", 4, api.ErrForm)
	refuses(t, "a'", 1, api.ErrForm)
}

// What stands side by side is parted where the longest token ends.
func TestSideBySide(t *testing.T) {
	scans(t, "a1", name("a1", 0), end(2))
	scans(t, "1a", num("1", 1, 0), name("a", 1), end(2))
	scans(t, "1_", num("1", 1, 0), name("_", 1), end(2))
	scans(t, "1a2b", num("1", 1, 0), name("a2b", 1), end(4))
	scans(t, "a'b'", name("a", 0), text("b", 1), end(4))
	scans(t, "'b'a", text("b", 0), name("a", 3), end(4))
	scans(t, "1'b'2", num("1", 1, 0), text("b", 1), num("2", 2, 4), end(5))
	scans(t, "a'b'c'd'e", name("a", 0), text("b", 1), name("c", 4), text("d", 5), name("e", 8), end(9))
	scans(t, "a.b:c", name("a", 0), mark(".", 1), name("b", 2), mark(":", 3), name("c", 4), end(5))
	scans(t, "0x1F", num("0", 0, 0), name("x1F", 1), end(4))
	scans(t, "notnull", name("notnull", 0), end(7))
	n, a := strings.Repeat("1", maxDigits), strings.Repeat("a", api.MaxName)
	scans(t, n+a, num(n, 111111111111111111, 0), name(a, maxDigits), end(maxDigits+api.MaxName))
	refuses(t, n+a+"1", maxDigits, api.ErrForm)
	refuses(t, a+n, 0, api.ErrForm)
}

// Each byte where a token would begin.
func TestEachByte(t *testing.T) {
	const alone = "(),;.*+-/%=<>{}:"
	for b := range 256 {
		s := string([]byte{byte(b)})
		var want []api.Token
		switch {
		case b >= 'a' && b <= 'z' || b >= 'A' && b <= 'Z' || b == '_':
			want = []api.Token{name(s, 0)}
		case b >= '0' && b <= '9':
			want = []api.Token{num(s, b-'0', 0)}
		case b < 128 && strings.Contains(alone, s):
			want = []api.Token{mark(s, 0)}
		case b == 9 || b == 10 || b == 13 || b == 32:
		default:
			refuses(t, s, 0, api.ErrForm)
			refuses(t, "; "+s+" ;", 2, api.ErrForm)
			refuses(t, "a "+s, 2, api.ErrForm)
			if b != '\'' {
				refuses(t, "''"+s, 2, api.ErrForm)
			}
			continue
		}
		scans(t, s, append(slices.Clone(want), end(1))...)
		for i := range want {
			want[i].At = 2
		}
		scans(t, "; "+s+" ;", append(append([]api.Token{mark(";", 0)}, want...), mark(";", 4), end(5))...)
	}
}

// Each byte within a text.
func TestEachByteOfTexts(t *testing.T) {
	for b := range 256 {
		s := string([]byte{byte(b)})
		switch {
		case b == '\'':
			scans(t, "'a"+s+s+"b'", text("a'b", 0), end(6))
		case b < 32 && b != 10:
			refuses(t, "'"+s+"'", 1, api.ErrForm)
			refuses(t, "'a''"+s+"b'", 4, api.ErrForm)
			refuses(t, "1 'a"+s+s+"' |", 4, api.ErrForm)
			refuses(t, "'"+strings.Repeat("x", api.MaxText-1)+s+"'", api.MaxText, api.ErrForm)
		default:
			scans(t, "'"+s+"'", text(s, 0), end(3))
			scans(t, "a'"+s+"''"+s+"'", name("a", 0), text(s+"'"+s, 1), end(7))
		}
	}
}

// Of several that may not be the first from the left is told: of a text without an end, or too long, the place is where it begins, so ahead of any byte in it.
func TestFirstFromTheLeft(t *testing.T) {
	longName, longInt := strings.Repeat("n", api.MaxName+1), strings.Repeat("1", maxDigits+1)
	x := strings.Repeat("x", api.MaxText)
	refuses(t, "a | "+longName+" "+longInt+" '\x00' '", 2, api.ErrForm)
	refuses(t, "a "+longName+" | "+longInt, 2, api.ErrForm)
	refuses(t, "a "+longInt+longName+" |", 2, api.ErrForm)
	refuses(t, "'a\x01\x02' |", 2, api.ErrForm)
	refuses(t, "'a\x01' 'b\x00", 2, api.ErrForm)
	refuses(t, "'a' | '\x00' '", 4, api.ErrForm)
	refuses(t, "'a\x01", 0, api.ErrForm)
	refuses(t, "'\x01", 0, api.ErrForm)
	refuses(t, "'a\x01''", 0, api.ErrForm)
	refuses(t, "1 'a\x01''", 2, api.ErrForm)
	refuses(t, "1 'a\x01''' '", 4, api.ErrForm)
	refuses(t, "'"+x+"\x01'", 0, api.ErrForm)
	refuses(t, "'\x01"+x+"'", 0, api.ErrForm)
	refuses(t, "'\x01"+x+"", 0, api.ErrForm)
	refuses(t, "a '\x01"+x+"' |", 2, api.ErrForm)
	refuses(t, "a '\x01"+x[1:]+"' |", 3, api.ErrForm)
	refuses(t, "'"+strings.Repeat("''", api.MaxText-1)+"\x01'", 2*api.MaxText-1, api.ErrForm)
	refuses(t, "a '"+strings.Repeat("''", api.MaxText)+"\x01'", 2, api.ErrForm)
	refuses(t, "-- '\x00 |\n\x00", 8, api.ErrForm)
}

func TestMaxSource(t *testing.T) {
	blanks := strings.Repeat(" ", api.MaxSource)
	scans(t, blanks, end(api.MaxSource))
	scans(t, blanks[1:]+"a", name("a", api.MaxSource-1), end(api.MaxSource))
	scans(t, "a"+blanks[1:], name("a", 0), end(api.MaxSource))
	scans(t, "--"+strings.Repeat("x", api.MaxSource-2), end(api.MaxSource))
	refuses(t, blanks[1:]+"|", api.MaxSource-1, api.ErrForm)
	refuses(t, blanks+" ", 0, api.ErrMany)
	refuses(t, blanks+blanks, 0, api.ErrMany)
	refuses(t, blanks+"a", 0, api.ErrMany)
	refuses(t, "a|"+blanks, 0, api.ErrMany)
	refuses(t, "\x00"+blanks, 0, api.ErrMany)
	refuses(t, "'"+blanks, 0, api.ErrMany)
	refuses(t, strings.Repeat(";", api.MaxSource+1), 0, api.ErrMany)
	refuses(t, strings.Repeat("a", 1<<20), 0, api.ErrMany)
}

// commas are n tokens, and what they are.
func commas(n int) (string, []api.Token) {
	var out []api.Token
	for i := range n {
		out = append(out, mark(",", i))
	}
	return strings.Repeat(",", n), out
}

func TestMaxTokens(t *testing.T) {
	s, want := commas(api.MaxTokens - 1)
	scans(t, s, append(want, end(len(s)))...)
	scans(t, s+" --\n\t--", append(want, end(len(s)+7))...)
	full, _ := commas(api.MaxTokens)
	refuses(t, full, api.MaxTokens, api.ErrMany)
	refuses(t, full+" \n ", api.MaxTokens+3, api.ErrMany)
	refuses(t, full+" -- x", api.MaxTokens+5, api.ErrMany)
	refuses(t, full+",", api.MaxTokens, api.ErrMany)
	refuses(t, full+full, api.MaxTokens, api.ErrMany)
	for _, k := range []string{"a", "1", "'x'", "||", "'\n'", "select"} {
		refuses(t, full+"  "+k, api.MaxTokens+2, api.ErrMany)
		refuses(t, full+"--\n"+k+" b |", api.MaxTokens+3, api.ErrMany)
		refuses(t, s+k, len(s)+len(k), api.ErrMany)
	}
	names := strings.Repeat("a ", api.MaxTokens)
	refuses(t, names, 2*api.MaxTokens, api.ErrMany)
	refuses(t, names+"a", 2*api.MaxTokens, api.ErrMany)
	if got, at, err := token.Scan(names[2:]); len(got) != api.MaxTokens || at != 0 || err != api.OK {
		t.Errorf("Scan of names: %d tokens, %d %v", len(got), at, err)
	}
}

// What is no token is none too many.
func TestMaxTokensOrForm(t *testing.T) {
	last, _ := commas(api.MaxTokens - 1)
	full := last + ","
	broken := []struct {
		s  string
		at int
	}{{"|", 0}, {"\x00", 0}, {"'", 0}, {"'a\x01b", 0}, {"'a\x01b'", 2}, {strings.Repeat("a", api.MaxName+1), 0}, {strings.Repeat("1", maxDigits+1), 0}}
	for _, b := range broken {
		refuses(t, last+b.s, len(last)+b.at, api.ErrForm)
		refuses(t, full+b.s, len(full)+b.at, api.ErrForm)
		refuses(t, full+" "+b.s, len(full)+1+b.at, api.ErrForm)
		refuses(t, full+";"+b.s, len(full), api.ErrMany)
		refuses(t, full+"; ; "+b.s, len(full), api.ErrMany)
	}
	refuses(t, "|"+full, 0, api.ErrForm)
	refuses(t, "'\x01'"+full, 1, api.ErrForm)
	refuses(t, "'"+full, 0, api.ErrForm)
}

// P5.2

func TestWord(t *testing.T) {
	all := strings.Fields(words)
	if len(all) != 67 {
		t.Errorf("%d words", len(all))
	}
	for _, w := range all {
		if !token.Word(w) {
			t.Errorf("%s is no word", w)
		}
	}
}

func TestWordOfOthers(t *testing.T) {
	isWord := map[string]bool{}
	for _, w := range strings.Fields(words) {
		isWord[w] = true
	}
	others := []string{"", " ", "a", "x", "_", "1", "'", "count", "sum", "min", "max", "low", "high", "order by", "begin begins", words, "true false", "nil", "\x00", "create", "drop", "with", "exist", "value", "column", "row", "inner", "right", "asc"}
	others = append(others, strings.Fields(marks)...)
	for w := range isWord {
		others = append(others, strings.ToUpper(w), strings.ToUpper(w[:1])+w[1:], w[:len(w)-1], w[1:], w+" ", " "+w, w+"\x00", w+w, w+"_")
		for c := 'a'; c <= 'z'; c++ {
			others = append(others, w+string(c), string(c)+w)
		}
	}
	for _, s := range others {
		if got := token.Word(s); got != isWord[s] {
			t.Errorf("Word %q: %v", s, got)
		}
	}
}

// P5.3

func lineIs(t *testing.T, s string, at, wantLine, wantCol int) {
	t.Helper()
	if line, col := token.Line(s, at); line != wantLine || col != wantCol {
		t.Errorf("Line %q %d: %d %d, want %d %d", short(s), at, line, col, wantLine, wantCol)
	}
}

func TestLine(t *testing.T) {
	s := "a\nbc\n\n\nd"
	for at, want := range [][2]int{{1, 1}, {1, 2}, {2, 1}, {2, 2}, {2, 3}, {3, 1}, {4, 1}, {5, 1}, {5, 2}} {
		lineIs(t, s, at, want[0], want[1])
	}
	lineIs(t, "", 0, 1, 1)
	lineIs(t, "\n", 0, 1, 1)
	lineIs(t, "\n", 1, 2, 1)
	lineIs(t, "\n\n", 1, 2, 1)
	lineIs(t, "\n\n", 2, 3, 1)
	lineIs(t, "a\n", 1, 1, 2)
	lineIs(t, "a\n", 2, 2, 1)
	lineIs(t, "a\r\nb\rc", 2, 1, 3)
	lineIs(t, "a\r\nb\rc", 3, 2, 1)
	lineIs(t, "a\r\nb\rc", 5, 2, 3)
	lineIs(t, "éé\né", 4, 1, 5)
	lineIs(t, "éé\né", 7, 2, 3)
	lineIs(t, "\x00\xff\n\x00\xff", 4, 2, 2)
	lineIs(t, strings.Repeat("x", 3*api.MaxSource), 2*api.MaxSource, 1, 2*api.MaxSource+1)
	lineIs(t, strings.Repeat("\n", 3*api.MaxSource), 2*api.MaxSource, 2*api.MaxSource+1, 1)
}

func TestLineBeyond(t *testing.T) {
	for _, at := range []int{math.MinInt, -1000, -2, -1} {
		lineIs(t, "", at, 1, 1)
		lineIs(t, "a\nb", at, 1, 1)
		lineIs(t, "\n", at, 1, 1)
	}
	for _, more := range []int{0, 1, 2, 1000, math.MaxInt - 6} {
		lineIs(t, "", more, 1, 1)
		lineIs(t, "ab", 2+more, 1, 3)
		lineIs(t, "a\nbc", 4+more, 2, 3)
		lineIs(t, "a\nbc\n", 5+more, 3, 1)
		lineIs(t, "\n\n\n", 3+more, 4, 1)
	}
}

// Counted byte by byte.
func TestLineCounted(t *testing.T) {
	for _, s := range append(gaps(), "select a as x\n  from t\n\n\twhere b = 'c\nd' -- e\n;", "\n\na\n\n", "a\n\n\nb") {
		line, col := 1, 1
		for at := range len(s) {
			lineIs(t, s, at, line, col)
			if col++; s[at] == 10 {
				line, col = line+1, 1
			}
		}
		lineIs(t, s, len(s), line, col)
	}
}
