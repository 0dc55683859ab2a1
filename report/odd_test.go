package report_test

import (
	"math"
	"strings"
	"testing"

	"cordon/api"
	"cordon/report"
	"cordon/value"
)

// oddValues are values that are not right.
func oddValues() []api.Value {
	var out []api.Value
	for _, kind := range []int{math.MinInt, -1, api.TyNull, api.TyBool, api.TyInt, api.TyText, 4, 99, 1<<32 + 1, math.MaxInt} {
		for _, n := range []int{math.MinInt, -1, 0, 1, 2, math.MaxInt} {
			for _, s := range []string{"", "x", "'\n\\", strings.Repeat("'", api.MaxText+1)} {
				if v := (api.Value{Type: kind, N: n, S: s}); value.Right(v) != api.OK {
					out = append(out, v)
				}
			}
		}
	}
	return out
}

// P1: values that are not right have texts, too, wherever they stand, which are no more than one line; and those beside them are told as ever.
func TestOddValues(t *testing.T) {
	for _, v := range oddValues() {
		s := report.Value(v)
		checkIs(t, "one line", s != "" && !strings.Contains(s, "\n"), true)
		check(t, "again", report.Value(v), s)
		check(t, "Row", report.Row(row(num(1), v, no)), "1, "+s+", false")
		check(t, "Rows", report.Rows([][]api.Value{row(v), row(null)}), s+"\nnull\n")
		check(t, "Outs", report.Outs(nil, []api.Out{out(0, v), out(0, yes)}), "? "+s+"\n? true\n")
	}
}

// A text that is too long is told as any other one: so that it is read as one.
func TestOddLongTexts(t *testing.T) {
	reads(t, report.Value(text(full+"x")), nil, api.ErrMany)
	reads(t, report.Row(row(num(1), text(full+full))), nil, api.ErrMany)
}

// P1: whatever the text, Read answers a row of right values, or one of two errors.
func TestOddTexts(t *testing.T) {
	for _, s := range []string{
		strings.Repeat("'", 100001), strings.Repeat("'", 100000), strings.Repeat(`\`, 100000), strings.Repeat(", ", 100000), strings.Repeat("1, ", 100000), strings.Repeat("0", 100000),
		strings.Repeat("\x00", 100000), "'" + strings.Repeat(`\0`, 50000), "'" + strings.Repeat(`\0a`, 50000), "-" + strings.Repeat("1", 100000), strings.Repeat("\xff", 1000), "\ufeff1", "1\ufeff", "\u00a01", "'\u2028'",
	} {
		row, err := report.Read(s)
		if err != api.OK && err != api.ErrForm && err != api.ErrMany || err != api.OK && row != nil {
			t.Errorf("%s: %d values, %v", short(s), len(row), err)
		}
	}
}

// P2 and rule 6: what is answered hangs on nothing that was asked ahead, refused or not.
func TestAskedAhead(t *testing.T) {
	ask := func() string {
		var all strings.Builder
		for _, x := range allTold() {
			r, err := report.Read(x.text)
			all.WriteString(report.Value(x.v) + report.Row(r) + err.Error())
		}
		for e := range api.Errno(25) {
			all.WriteString(report.Why(e-3) + report.Note(ourSchema, ourScript, note(int(e)%4, int(e), e, int(e)%7)))
		}
		return all.String()
	}
	was := ask()
	for _, s := range []string{"x", "'", joined("1", api.MaxCols+1), "'" + full + "x'", "01"} {
		if _, err := report.Read(s); err == api.OK {
			t.Errorf("%s is taken", short(s))
		}
		check(t, "behind a refusal", ask(), was)
	}
	for _, v := range oddValues() {
		report.Rows([][]api.Value{row(v)})
	}
	check(t, "behind odd values", ask(), was)
}
