package report_test

import (
	"math"
	"math/rand/v2"
	"strings"
	"testing"

	"cordon/api"
	"cordon/report"
	"cordon/value"
)

// maker makes values and texts, the same ones in every run.
type maker struct{ *rand.Rand }

func newMaker(seed uint64) maker { return maker{rand.New(rand.NewPCG(seed, 23))} }

func pick[T any](m maker, l ...T) T { return l[m.IntN(len(l))] }

func (m maker) number() int {
	switch m.IntN(4) {
	case 0:
		return m.IntN(21) - 10
	case 1:
		return pick[int](m, math.MinInt, math.MinInt+1, math.MaxInt, math.MaxInt-1, 1<<31, -1<<31, 1e18, -1e18)
	case 2:
		return int(m.Uint64())
	}
	return int(m.Uint64()) >> m.IntN(64)
}

func (m maker) bytes(n int) string {
	var out strings.Builder
	all := m.IntN(2) == 0
	for range n {
		if all {
			out.WriteByte(byte(m.IntN(256)))
		} else {
			out.WriteByte(pick(m, []byte("'\\\n\x00\x1f ,a05cf-x\x7f\xff")...))
		}
	}
	return out.String()
}

func (m maker) value() api.Value {
	switch m.IntN(6) {
	case 0:
		return null
	case 1:
		return pick(m, yes, no)
	case 2, 3:
		return num(m.number())
	case 4:
		return text(m.bytes(m.IntN(8)))
	}
	return text(m.bytes(pick(m, 0, 1, 2, 40, api.MaxText-1, api.MaxText)))
}

func (m maker) row(n int) []api.Value {
	var out []api.Value
	for range n {
		out = append(out, m.value())
	}
	return out
}

// changed is a text with a few bytes gone, put in, or in place of others.
func (m maker) changed(s string) string {
	for range 1 + m.IntN(3) {
		at := m.IntN(len(s) + 1)
		to := min(len(s), at+m.IntN(3))
		s = s[:at] + pick(m, "", "'", "''", `\`, `\0a`, `\5c`, `\41`, ", ", ",", " ", "0", "-", "1", "null", "\n", "x") + s[to:]
	}
	return s
}

// pieces are those that texts of rows are put together of, and some that are none.
func (m maker) pieces(n int) string {
	var out strings.Builder
	for range n {
		out.WriteString(pick(m, "null", "true", "false", "0", "7", "-", "12", "'", "'", "''", "'x'", `\`, `\00`, `\1f`, `\5c`, `\5C`, ", ", ", ", ", ", ",", " ", "a", "\n", "\xff", "9223372036854775807", "9223372036854775808"))
	}
	return out.String()
}

// P23.5: Read of Row is the row; and one too many is refused.
func TestBackOfRows(t *testing.T) {
	for seed := range uint64(3000) {
		m := newMaker(seed)
		r := m.row(pick(m, 0, 1, 2, 3, 5, 8, api.MaxCols-1, api.MaxCols))
		told := report.Row(r)
		check(t, seed, told, modelRowTold(r))
		reads(t, told, r, api.OK)
		over := append(r, m.row(api.MaxCols+1-len(r))...)
		reads(t, report.Row(over), nil, api.ErrMany)
	}
}

// P23.5 of each value by itself, and of all in one row after the other.
func TestBackOfValues(t *testing.T) {
	var all []api.Value
	for _, x := range allTold() {
		all = append(all, x.v)
	}
	m := newMaker(1)
	all = append(all, m.row(2000)...)
	for i := range all {
		reads(t, report.Value(all[i]), all[i:i+1], api.OK)
		r := all[i:min(len(all), i+7)]
		reads(t, report.Row(r), r, api.OK)
	}
	of := map[string]api.Value{}
	for _, v := range all {
		told := report.Value(v)
		if other, ok := of[told]; ok && other != v {
			t.Errorf("%s is told of two", short(told))
		}
		of[told] = v
	}
}

// backOfText holds Read of a text against the second way, and Row of it against the text. It tells the error.
func backOfText(t *testing.T, s string) api.Errno {
	t.Helper()
	want, wantErr := modelRead(s)
	reads(t, s, want, wantErr)
	got, err := report.Read(s)
	if err == api.OK {
		check(t, "Row of Read", report.Row(got), s)
	}
	for _, v := range got {
		checkIs(t, "right", value.Right(v) == api.OK, true)
	}
	return err
}

// enough sees to it that each of some answers came often.
func enough(t *testing.T, counts map[api.Errno]int, least int, of ...api.Errno) {
	t.Helper()
	for _, err := range of {
		if counts[err] < least {
			t.Errorf("%v came %d times", err, counts[err])
		}
	}
	if len(counts) != len(of) {
		t.Errorf("other errors: %v", counts)
	}
}

// P23.5: Row of Read is the text: of texts of rows that were changed somewhere.
func TestBackOfChangedTexts(t *testing.T) {
	counts := map[api.Errno]int{}
	for seed := range uint64(20000) {
		m := newMaker(seed)
		s := report.Row(m.row(m.IntN(5)))
		if m.IntN(10) == 0 {
			s = report.Row(m.row(api.MaxCols + m.IntN(2)))
		}
		counts[backOfText(t, m.changed(s))]++
	}
	enough(t, counts, 300, api.OK, api.ErrForm, api.ErrMany)
}

// The same of texts that are put together of pieces.
func TestBackOfPieces(t *testing.T) {
	counts := map[api.Errno]int{}
	for seed := range uint64(60000) {
		m := newMaker(seed)
		counts[backOfText(t, m.pieces(m.IntN(9)))]++
	}
	enough(t, counts, 3000, api.OK, api.ErrForm)
}

// The same of all short texts of some bytes.
func TestBackOfShortTexts(t *testing.T) {
	counts := map[api.Errno]int{}
	var all func(s string, more int)
	all = func(s string, more int) {
		counts[backOfText(t, s)]++
		if more == 0 {
			return
		}
		for _, c := range []string{"'", `\`, "0", "5", "c", "-", ",", " ", "\n"} {
			all(s+c, more-1)
		}
	}
	all("", 5)
	enough(t, counts, 100, api.OK, api.ErrForm)
	for a := range 256 {
		for b := range 256 {
			two := string([]byte{byte(a), byte(b)})
			backOfText(t, two)
			backOfText(t, "'"+two+"'")
			backOfText(t, "1"+two+"1")
		}
	}
}

// Rows, Outs and Note are told line by line of what Row, Value and Why tell.
func TestLinesOfMade(t *testing.T) {
	for seed := range uint64(500) {
		m := newMaker(seed)
		var l [][]api.Value
		var outs []api.Out
		rows, told := "", ""
		for range m.IntN(6) {
			r, o := m.row(m.IntN(4)), api.Out{Channel: m.IntN(5) - 1, Value: m.value()}
			l, outs = append(l, r), append(outs, o)
			rows += modelRowTold(r) + "\n"
			told += []string{"?", "a", "b", "?", "?"}[o.Channel+1] + " " + modelTold(o.Value) + "\n"
		}
		check(t, seed, report.Rows(l), rows)
		check(t, seed, report.Outs([]api.Named{{Name: "a"}, {Name: "b"}}, outs), told)
	}
}
