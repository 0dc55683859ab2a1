package report_test

import (
	"fmt"
	"math"
	"slices"
	"strings"
	"testing"

	"cordon/api"
	"cordon/report"
)

var (
	null = api.Value{}
	no   = api.Value{Type: api.TyBool}
	yes  = api.Value{Type: api.TyBool, N: 1}

	full = strings.Repeat("x", api.MaxText)
)

func num(n int) api.Value     { return api.Value{Type: api.TyInt, N: n} }
func text(s string) api.Value { return api.Value{Type: api.TyText, S: s} }

func row(vs ...api.Value) []api.Value { return vs }

func many(v api.Value, n int) []api.Value { return slices.Repeat(row(v), n) }

// joined are n times the same text, with a comma and a blank between.
func joined(s string, n int) string { return strings.Join(slices.Repeat([]string{s}, n), ", ") }

// told is a value and its text.
type told struct {
	v    api.Value
	text string
}

// allTold are values and their texts, written out.
func allTold() []told {
	out := []told{
		{null, "null"}, {yes, "true"}, {no, "false"},
		{num(0), "0"}, {num(1), "1"}, {num(-1), "-1"}, {num(9), "9"}, {num(10), "10"}, {num(-10), "-10"}, {num(1234567890), "1234567890"},
		{num(math.MaxInt64), "9223372036854775807"}, {num(math.MinInt64), "-9223372036854775808"},
		{num(math.MaxInt64 - 1), "9223372036854775806"}, {num(math.MinInt64 + 1), "-9223372036854775807"},
		{num(1 << 31), "2147483648"}, {num(-1 << 32), "-4294967296"},
		{text(""), "''"}, {text("a"), "'a'"}, {text("it's"), "'it''s'"},
		{text("'"), "''''"}, {text("''"), "''''''"}, {text("'''"), "''''''''"}, {text("'a''b'"), "'''a''''b'''"},
		{text(`\`), `'\5c'`}, {text(`\\`), `'\5c\5c'`}, {text(`\5c`), `'\5c5c'`}, {text(`\n`), `'\5cn'`}, {text(`'\'`), `'''\5c'''`},
		{text("\x1f"), `'\1f'`}, {text(" "), "' '"}, {text("\x7f"), "'\x7f'"}, {text("\xff"), "'\xff'"}, {text("\x80"), "'\x80'"},
		{text("[]"), "'[]'"}, {text("é€\xc3"), "'é€\xc3'"}, {text(`"`), `'"'`}, {text("&("), "'&('"},
		{text("a\nb"), `'a\0ab'`}, {text("\n0"), `'\0a0'`}, {text("\x001"), `'\001'`}, {text("0a"), "'0a'"},
		{text("null"), "'null'"}, {text("true"), "'true'"}, {text("-7"), "'-7'"}, {text("1, 2"), "'1, 2'"}, {text("', '"), "''', '''"}, {text(", "), "', '"},
		{text("?"), "'?'"},
		{text(full), "'" + full + "'"},
		{text(strings.Repeat("'", api.MaxText)), "'" + strings.Repeat("''", api.MaxText) + "'"},
		{text(strings.Repeat("\x00", api.MaxText)), "'" + strings.Repeat(`\00`, api.MaxText) + "'"},
		{text(strings.Repeat(`\`, api.MaxText)), "'" + strings.Repeat(`\5c`, api.MaxText) + "'"},
	}
	for i, digits := range strings.Fields("00 01 02 03 04 05 06 07 08 09 0a 0b 0c 0d 0e 0f 10 11 12 13 14 15 16 17 18 19 1a 1b 1c 1d 1e 1f") {
		c := string([]byte{byte(i)})
		out = append(out, told{text(c), `'\` + digits + "'"}, told{text("x" + c + c + "y"), `'x\` + digits + `\` + digits + "y'"})
	}
	for c := 32; c < 256; c++ {
		if s := string([]byte{byte(c)}); s != "'" && s != `\` {
			out = append(out, told{text(s), "'" + s + "'"}, told{text("x" + s + s), "'x" + s + s + "'"})
		}
	}
	return out
}

// short is as much of a text as is good to be read.
func short(s string) string {
	if len(s) > 90 {
		return fmt.Sprintf("%q .. (%d bytes)", s[:90], len(s))
	}
	return fmt.Sprintf("%q", s)
}

func check(t *testing.T, what any, got, want string) {
	t.Helper()
	if got != want {
		t.Errorf("%v: %s, want %s", what, short(got), short(want))
	}
}

func checkIs(t *testing.T, what any, got, want bool) {
	t.Helper()
	if got != want {
		t.Errorf("%v: %v, want %v", what, got, want)
	}
}

// reads holds Read of a text against a row, or an error: with that there are no values.
func reads(t *testing.T, s string, want []api.Value, wantErr api.Errno) {
	t.Helper()
	got, err := report.Read(s)
	if err != wantErr || !slices.Equal(got, want) {
		t.Errorf("Read(%s): %d values, %v, want %d, %v", short(s), len(got), err, len(want), wantErr)
	}
	if err != api.OK && got != nil {
		t.Errorf("Read(%s): a list beside %v", short(s), err)
	}
}

// refused holds texts against an error.
func refused(t *testing.T, want api.Errno, texts ...string) {
	t.Helper()
	for _, s := range texts {
		reads(t, s, nil, want)
	}
}
