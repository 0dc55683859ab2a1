package report_test

import (
	"reflect"
	"slices"
	"strings"
	"testing"
	"unsafe"

	"cordon/api"
	"cordon/report"
)

// within tells whether a text shares memory with another one.
func within(a, b string) bool {
	if a == "" || b == "" {
		return false
	}
	x, y := uintptr(unsafe.Pointer(unsafe.StringData(a))), uintptr(unsafe.Pointer(unsafe.StringData(b)))
	return x < y+uintptr(len(b)) && y < x+uintptr(len(a))
}

// Rules 3 and 7: what Read answers shares memory with nothing: not with its argument, nor with another answer.
func TestReadOwn(t *testing.T) {
	m := newMaker(7)
	for range 300 {
		r := append(m.row(m.IntN(6)), text("some text "+m.bytes(5)), text("some more"))
		s := report.Row(r)
		was := strings.Clone(s)
		got, err := report.Read(s)
		again, _ := report.Read(s)
		if err != api.OK || len(got) != len(r) || &got[0] == &again[0] {
			t.Fatalf("%s: %v", short(s), err)
		}
		for _, v := range got {
			if len(v.S) > 1 && within(v.S, s) { // what has one byte may be a text that all programs share
				t.Errorf("%s is a piece of what was read", short(v.S))
			}
		}
		for i := range got[:cap(got)] {
			got[:cap(got)][i] = api.Value{Type: 9, S: "spoilt"}
		}
		checkIs(t, "another one", slices.Equal(again, r), true)
		reads(t, s, r, api.OK)
		check(t, "the text", s, was)
	}
}

// Texts that are told are none of what was handed in.
func TestToldOwn(t *testing.T) {
	long := strings.Repeat("some text ", 20)
	v := text(long)
	channels := []api.Named{{Name: strings.Repeat("name", 7)}}
	for _, s := range []string{report.Value(v), report.Row(row(v)), report.Rows([][]api.Value{row(v)}), report.Outs(channels, []api.Out{out(0, v)}), report.Note(long, long, api.Note{})} {
		checkIs(t, short(s), within(s, long) || within(s, channels[0].Name), false)
	}
}

// Rule 3: no call changes what it is handed, nor the room behind it.
func TestNothingChanged(t *testing.T) {
	m := newMaker(9)
	for range 200 {
		all := slices.Grow(m.row(3+m.IntN(5)), 4)
		rows := [][]api.Value{all[:2], all, nil, {}, all[1:2]}
		outs := []api.Out{out(0, all[0]), out(-1, all[1]), out(2, oddValues()[m.IntN(20)])}
		channels := []api.Named{{Name: "a", Level: 3}, {Name: "b", Level: -1}}
		values, lines, told, named := slices.Clone(all), slices.Clone(rows), slices.Clone(outs), slices.Clone(channels)
		report.Value(all[0])
		report.Row(all)
		report.Row(all[:1])
		report.Rows(rows)
		report.Rows(rows[:1])
		report.Outs(channels, outs)
		report.Outs(channels[:1], outs[:1])
		if !slices.Equal(all, values) || !reflect.DeepEqual(rows, lines) || !slices.Equal(outs, told) || !slices.Equal(channels, named) {
			t.Fatal("something is changed")
		}
		for _, v := range all[len(all):cap(all)] {
			checkIs(t, "the room", v == null, true)
		}
	}
}
