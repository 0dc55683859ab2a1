package report_test

import (
	"strings"
	"testing"

	"cordon/api"
)

// P23.4

func TestRead(t *testing.T) {
	for _, x := range allTold() {
		reads(t, x.text, row(x.v), api.OK)
		reads(t, x.text+", "+x.text, row(x.v, x.v), api.OK)
		reads(t, "7, "+x.text+", null", row(num(7), x.v, null), api.OK)
	}
	reads(t, "1, null, 'it''s'", row(num(1), null, text("it's")), api.OK)
	reads(t, "true, false, 0, -1, '', 'a, b', null", row(yes, no, num(0), num(-1), text(""), text("a, b"), null), api.OK)
}

// The empty text is that of a row of no value.
func TestReadNothing(t *testing.T) {
	reads(t, "", nil, api.OK)
	refused(t, api.ErrForm, " ", "  ", ",", ", ", "\n", "\x00", "'", ",,")
}

func TestReadBetween(t *testing.T) {
	for _, a := range []string{"null", "true", "false", "0", "12", "-3", "''", "'x'", "''''", `'\0a'`, "', '"} {
		for _, b := range []string{"null", "true", "false", "0", "12", "-3", "''", "'x'", "''''", `'\5c'`, "', '"} {
			for _, mark := range []string{",", ",  ", " ,", " , ", " ", "  ", ",,", ",, ", ", ,", ", , ", ";", "; ", ",\n", "\n", ",\t", ", \n", "\n, ", "\x00", ", \x00"} {
				refused(t, api.ErrForm, a+mark+b, a+", "+b+mark, mark+a+", "+b, a+", "+b+mark+a)
			}
		}
		refused(t, api.ErrForm, " "+a, a+" ", ","+a, a+",", ", "+a, a+", ", a+", ,", a+"\n", "\n"+a, "("+a+")", a+"x", "x"+a, a+"\x00", a+"-")
	}
	refused(t, api.ErrForm, "nullnull", "truefalse", "1-1", "1'a'", "'a'1", "null'a'", "'a'null", "'a' 'b'", "'a'b'")
	reads(t, "'a''b'", row(text("a'b")), api.OK) // two that stand side by side are one
	reads(t, "11", row(num(11)), api.OK)
}

func TestReadWords(t *testing.T) {
	refused(t, api.ErrForm, "Null", "NULL", "nul", "nulls", "n", "nil", "True", "TRUE", "tru", "truee", "t", "T", "False", "FALSE", "fals", "f", "ok", "?", "\"a\"", "`a`", "a", "null.", "#null", "no", "yes", "not null", "-null", "-true", "n ull", "nul\x00l", "ｎull")
}

func TestReadNumbers(t *testing.T) {
	reads(t, "9223372036854775807, -9223372036854775808", row(num(9223372036854775807), num(-9223372036854775808)), api.OK)
	reads(t, "100, -100, 10203040, 5000000000", row(num(100), num(-100), num(10203040), num(5000000000)), api.OK)
	refused(t, api.ErrForm,
		"00", "01", "007", "-01", "-00", "-0", "+0", "+1", "++1", "+-1", "-+1", "--1", "-", "+", "1-", "1+", "- 1", "-  1",
		"1.0", "1.", ".1", "1e3", "1E3", "0x1", "0X1", "0b1", "0o7", "1_000", "1,000", "1 000", "1a", "a1", "ff", "1'", "'1", "inf", "NaN", "٣", "１",
		"9223372036854775808", "-9223372036854775809", "9223372036854775817", "18446744073709551615", "18446744073709551616", "18446744073709551617", "36893488147419103233", "-18446744073709551617",
		"10000000000000000000", "99999999999999999999999", "09223372036854775807", "-09223372036854775808", strings.Repeat("9", 5000), "1"+strings.Repeat("0", 5000), strings.Repeat("0", 5000), strings.Repeat("-", 5000),
	)
}

func TestReadTexts(t *testing.T) {
	refused(t, api.ErrForm, "'", "'a", "'a''", "'''", "''a", "a''", "'''''", "'a'b", "'a'b'c'", "'a' ", "''''x", "'a, b", "'a, 'b'", "'a', 'b", "'a', b'", "'a\x00'b")
	for c := range 32 {
		s := string([]byte{byte(c)})
		refused(t, api.ErrForm, "'"+s+"'", "'a"+s+"b'", "'', '"+s+"'", "'"+s)
	}
	for c := 32; c < 256; c++ {
		if s := string([]byte{byte(c)}); s != "'" && s != `\` {
			reads(t, "'a"+s+"b'", row(text("a"+s+"b")), api.OK)
		}
	}
}

func TestReadEscapes(t *testing.T) {
	for a := range 256 {
		for b := range 256 {
			digits := string([]byte{byte(a), byte(b)})
			x := strings.IndexByte("0123456789abcdef", byte(a))
			y := strings.IndexByte("0123456789abcdef", byte(b))
			want := byte(16*x + y)
			if x < 0 || y < 0 || want >= 32 && want != '\\' {
				refused(t, api.ErrForm, `'\`+digits+`'`, `'a\`+digits+`b'`)
				continue
			}
			reads(t, `'\`+digits+`'`, row(text(string([]byte{want}))), api.OK)
			reads(t, `'a\`+digits+`0'`, row(text("a"+string([]byte{want})+"0")), api.OK)
		}
	}
	refused(t, api.ErrForm, `'\'`, `'\`, `'\0`, `'\0'`, `'\5'`, `'\5`, `'\5c`, `'\1g'`, `'\g1'`, `'\0A'`, `'\0F'`, `'\1A'`, `'\5C'`, `'\41'`, `'\20'`, `'\27'`, `'\7f'`, `'\ff'`, `'\\'`, `'\\5c'`, `'\ 0a'`, `'\0 a'`, `'\n'`, `'\x0a'`, `'\u000a'`, `'\+1'`, `'\-1'`, `'\_1'`, `'\1_'`, `'\''`, `\0a`, `\5c`)
	reads(t, `'\5c0a'`, row(text(`\0a`)), api.OK)
}

// A text is as long as what it means is, however it is told.
func TestReadTooLong(t *testing.T) {
	for told, c := range map[string]string{"x": "x", "''": "'", `\00`: "\x00", `\0a`: "\n", `\5c`: `\`, "\xff": "\xff", ",": ",", " ": " "} {
		most := strings.Repeat(told, api.MaxText)
		reads(t, "'"+most+"'", row(text(strings.Repeat(c, api.MaxText))), api.OK)
		reads(t, "1, '"+most+"', null", row(num(1), text(strings.Repeat(c, api.MaxText)), null), api.OK)
		reads(t, "'"+most[len(told):]+"'", row(text(strings.Repeat(c, api.MaxText-1))), api.OK)
		refused(t, api.ErrMany, "'"+most+told+"'", "1, '"+told+most+"', null", "'', '"+most+most+"'", "'"+most+told+"', '"+most+told+"'", "'"+most+"a'", "'"+most+`\1f'`, "'"+most+"'''")
	}
}

func TestReadTooMany(t *testing.T) {
	for _, x := range allTold() {
		reads(t, joined(x.text, api.MaxCols), many(x.v, api.MaxCols), api.OK)
		refused(t, api.ErrMany, joined(x.text, api.MaxCols+1), joined(x.text, 2*api.MaxCols))
	}
	reads(t, joined("null", api.MaxCols-1), many(null, api.MaxCols-1), api.OK)
	refused(t, api.ErrMany, joined("null", 5000))
}

// What is wrong with the form comes first, wherever it stands: ahead of what is too much, in it, or behind it.
func TestReadWhichError(t *testing.T) {
	crowd, long := joined("1", api.MaxCols+1), "'"+full+"x'"
	for _, much := range []string{crowd, long, long + ", " + crowd, crowd + ", " + long, long + ", " + long} {
		refused(t, api.ErrMany, much, "1, "+much, much+", 'x'")
		for _, wrong := range []string{"x", "Null", "-0", "01", "'", "'a", "''x", "9223372036854775808", `'\41'`, "'\n'", "", " ", ","} {
			refused(t, api.ErrForm, wrong+", "+much, much+", "+wrong, "1, "+wrong+", "+much, much+", "+wrong+", 1", much+", "+wrong+", "+much)
		}
		refused(t, api.ErrForm, much+",", much+" ", much+", ", " "+much, ","+much, ", "+much, much+",1", much+" 1", much+";", much+"'", much+", 1, ")
	}
	refused(t, api.ErrForm, "'"+full+"x", "'"+full+"\n'", "'"+full+`x\'`, "'"+full+`x\41'`, "'"+full+"x\x00'", "'"+full+"x'y", "'"+full+"x''", `'\41`+full+"'", "'\n"+full+"'")
	refused(t, api.ErrForm, joined("1", api.MaxCols)+", x", joined("1", api.MaxCols)+", ", joined("1", api.MaxCols)+", '", joined("1", api.MaxCols)+",1", joined("1", api.MaxCols)+", "+"01")
	refused(t, api.ErrForm, "x, "+joined("1", api.MaxCols), joined("1,", api.MaxCols+1), joined(" 1", api.MaxCols+1))
	refused(t, api.ErrMany, joined("1", api.MaxCols)+", "+long, long+", "+joined("1", api.MaxCols), joined("1", api.MaxCols-1)+", "+long)
}
