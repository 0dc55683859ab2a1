package rows_test

import (
	"math"
	"strings"
	"testing"

	"cordon/api"
	"cordon/rows"
)

const (
	least, most = math.MinInt64, math.MaxInt64
)

// P11.5

func TestFold(t *testing.T) {
	for _, c := range []struct {
		name                  string
		l                     rows.Row
		count, sum, low, high any
	}{
		{"none", nil, 0, nil, nil, nil},
		{"empty", rows.Row{}, 0, nil, nil, nil},
		{"nulls alone", row(nil, nil, nil), 0, nil, nil, nil},
		{"one", row(7), 1, 7, 7, 7},
		{"zero", row(0), 1, 0, 0, 0},
		{"numbers", row(3, -5, 4, 3), 4, 5, -5, 4},
		{"nulls among others", row(nil, 2, nil, 1, nil), 2, 3, 1, 2},
		{"numbers above 0", row(2, 9, 4), 3, 15, 2, 9},
		{"numbers below 0", row(-2, -9, -4), 3, -15, -9, -2},
		{"texts", row("b", "ab", "a", "c", nil), 4, api.ErrType, "a", "c"},
		{"one text", row(""), 1, api.ErrType, "", ""},
		{"one bool", row(false), 1, api.ErrType, false, false},
		{"bools", row(true, nil, false), 2, api.ErrType, false, true},
		{"mixed", row("", 5, true, nil, "a", -5, false), 6, api.ErrType, false, "a"},
		{"numbers and a bool", row(1, true, 0), 3, api.ErrType, true, 1},
		{"numbers and a text", row(1, nil, "1"), 2, api.ErrType, 1, "1"},
		{"texts of any bytes", row("\xff", "\x00", "\xff\x00", ""), 4, api.ErrType, "", "\xff\x00"},
		{"long texts", row(long, long[1:], strings.Repeat("w", api.MaxText)), 3, api.ErrType, strings.Repeat("w", api.MaxText), long},
		{"the greatest", row(most), 1, most, most, most},
		{"the smallest", row(least, nil), 1, least, least, least},
		{"both", row(least, most), 2, -1, least, most},
		{"too great at the end", row(1, most), 2, api.ErrOver, 1, most},
		{"too small at the end", row(-1, least), 2, api.ErrOver, least, -1},
		{"just not too great", row(-1, most, 1), 3, most, -1, most},
		{"just not too small", row(1, least, -1), 3, least, least, 1},
		{"too great in between", row(most, 1, -1), 3, api.ErrOver, -1, most},
		{"too small in between", row(least, nil, -1, 1), 3, api.ErrOver, least, 1},
		{"too great ahead of no number", row(most, 1, "a"), 3, api.ErrOver, 1, "a"},
		{"no number ahead of too great", row(most, "a", 1), 3, api.ErrType, 1, "a"},
		{"no number at the front", row(true, most, most), 3, api.ErrType, true, most},
		{"many", repeated(1000, 9), 1000, 9000, 9, 9},
	} {
		for fn, want := range map[string]any{"count": c.count, "sum": c.sum, "min": c.low, "max": c.high} {
			wantErr, refused := want.(api.Errno)
			got, err := rows.Fold(fn, c.l)
			if refused && (err != wantErr || got != api.Value{}) || !refused && (err != api.OK || got != val(want)) {
				t.Errorf("%s of %s: %v, %v", fn, c.name, got, err)
			}
		}
	}
}

func TestFoldByNone(t *testing.T) {
	for _, fn := range []string{"", "Count", "COUNT", "count ", " count", "counts", "su", "sum\x00", "avg", "mi", "min(", "maximum", "max, min", long} {
		for _, l := range []rows.Row{nil, row(nil), row(1, 2), row("a"), row(most, 1), row(most, 1, "a"), oddValues()} {
			if got, err := rows.Fold(fn, l); err != api.ErrArg || got != (api.Value{}) {
				t.Errorf("%q of %s: %v, %v", fn, told(list(l)), got, err)
			}
		}
	}
}
