package report_test

import (
	"fmt"
	"slices"
	"strings"
	"testing"

	"cordon/api"
	"cordon/report"
	"cordon/value"
)

// P23.1

func TestValue(t *testing.T) {
	for _, x := range allTold() {
		if value.Right(x.v) != api.OK {
			t.Fatalf("%s is not right", short(x.text))
		}
		check(t, "Value", report.Value(x.v), x.text)
	}
}

// A text is told byte by byte: what is told of two, one behind the other, is what is told of both.
func TestValueBytes(t *testing.T) {
	inner := func(s string) string {
		told := report.Value(text(s))
		return told[1 : len(told)-1]
	}
	for a := range 256 {
		for b := range 256 {
			x, y := string([]byte{byte(a)}), string([]byte{byte(b)})
			check(t, fmt.Sprint(a, " ", b), inner(x+y), inner(x)+inner(y))
		}
	}
}

func TestRow(t *testing.T) {
	for _, x := range []struct {
		row  []api.Value
		want string
	}{
		{nil, ""},
		{row(), ""},
		{row(null), "null"},
		{row(num(7)), "7"},
		{row(text("")), "''"},
		{row(num(1), null, text("it's")), "1, null, 'it''s'"}, // the chapter's example
		{row(null, null), "null, null"},
		{row(yes, no, num(-3), text(", "), text("\n")), `true, false, -3, ', ', '\0a'`},
		{row(text(""), text("'"), text("")), "'', '''', ''"},
		{many(num(0), api.MaxCols), joined("0", api.MaxCols)},
		{many(text(full), api.MaxCols), joined("'"+full+"'", api.MaxCols)},
		{many(no, api.MaxCols+1), joined("false", api.MaxCols+1)}, // Row has no bound
		{many(num(-12), 1000), joined("-12", 1000)},
	} {
		check(t, "Row", report.Row(x.row), x.want)
	}
	for _, x := range allTold() {
		check(t, "one", report.Row(row(x.v)), x.text)
		check(t, "three", report.Row(row(x.v, no, x.v)), x.text+", false, "+x.text)
	}
}

func TestRows(t *testing.T) {
	for _, x := range []struct {
		rows [][]api.Value
		want string
	}{
		{nil, ""},
		{[][]api.Value{}, ""},
		{[][]api.Value{nil}, "\n"},
		{[][]api.Value{nil, {}, nil}, "\n\n\n"},
		{[][]api.Value{row(num(1))}, "1\n"},
		{[][]api.Value{row(num(1), null), row(text("\n"), yes)}, "1, null\n'\\0a', true\n"},
		{[][]api.Value{row(num(1)), nil, row(num(2), num(3), num(4)), row(text("''"))}, "1\n\n2, 3, 4\n''''''\n"},
	} {
		check(t, "Rows", report.Rows(x.rows), x.want)
	}
	same := slices.Repeat([][]api.Value{row(num(5), no)}, 1000)
	check(t, "many", report.Rows(same), strings.Repeat("5, false\n", 1000))
}

// A right value's text has no line's end in it, so that each line of Rows is one row.
func TestRowsLines(t *testing.T) {
	var all [][]api.Value
	var want []string
	for _, x := range allTold() {
		all = append(all, row(x.v, num(len(all))))
		want = append(want, x.text+", "+fmt.Sprint(len(want)))
	}
	got := strings.Split(report.Rows(all), "\n")
	checkIs(t, "lines", slices.Equal(got, append(want, "")), true)
}
