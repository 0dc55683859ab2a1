package report_test

import (
	"fmt"
	"math"
	"strconv"
	"strings"
	"testing"

	"cordon/api"
	"cordon/report"
	"cordon/token"
)

// errorWords are the words of the numbers from 0 on.
func errorWords() []string {
	return strings.Fields("ok nil argument type overflow zero key raise many deep form name level rows fuel flow null single shape")
}

// P23.3

func TestWhy(t *testing.T) {
	for i, word := range errorWords() {
		check(t, i, report.Why(api.Errno(i)), word)
	}
	checkIs(t, "all of them", len(errorWords()) == int(api.ErrShape)+1, true)
	for _, n := range []int{19, 20, 21, 32, 99, 256, 1<<32 + 1, math.MaxInt, -1, -2, -18, -256, -1<<32 + 3, math.MinInt} {
		check(t, n, report.Why(api.Errno(n)), "error "+strconv.Itoa(n))
	}
	check(t, "the least one", report.Why(math.MinInt64), "error -9223372036854775808")
	check(t, "the greatest one", report.Why(math.MaxInt64), "error 9223372036854775807")
}

func TestWhyNamed(t *testing.T) {
	for e, word := range map[api.Errno]string{
		api.OK: "ok", api.ErrNil: "nil", api.ErrArg: "argument", api.ErrType: "type", api.ErrOver: "overflow", api.ErrZero: "zero",
		api.ErrKey: "key", api.ErrRaise: "raise", api.ErrMany: "many", api.ErrDeep: "deep", api.ErrForm: "form", api.ErrName: "name",
		api.ErrLevel: "level", api.ErrRows: "rows", api.ErrFuel: "fuel", api.ErrFlow: "flow", api.ErrNull: "null", api.ErrSingle: "single", api.ErrShape: "shape",
	} {
		check(t, int(e), report.Why(e), word)
	}
}

const (
	ourSchema = "levels low;\n\nchannel out low;\n" // 12, 13 and 30 begin lines
	ourScript = "print out 1;\nprint out 2;"        // 13 begins the second one
)

func note(part, at int, err api.Errno, why int) api.Note {
	return api.Note{Part: part, At: at, Err: err, Why: why}
}

func TestNote(t *testing.T) {
	for _, x := range []struct {
		n    api.Note
		want string
	}{
		{note(0, 0, api.ErrForm, 0), "schema 1:1: form"},
		{note(0, 7, api.ErrName, 0), "schema 1:8: name"},
		{note(0, 11, api.ErrMany, 0), "schema 1:12: many"}, // at a byte 10
		{note(0, 12, api.ErrForm, 0), "schema 2:1: form"},  // and at one in a line of its own
		{note(0, 13, api.ErrForm, 0), "schema 3:1: form"},
		{note(0, 29, api.ErrForm, 0), "schema 3:17: form"},
		{note(0, 30, api.ErrLevel, 0), "schema 4:1: level"}, // the end
		{note(0, 31, api.ErrLevel, 0), "schema 4:1: level"}, // beyond it
		{note(0, math.MaxInt, api.OK, 0), "schema 4:1: ok"},
		{note(0, -1, api.ErrDeep, 0), "schema 1:1: deep"},
		{note(0, math.MinInt, api.ErrDeep, 0), "schema 1:1: deep"},
		{note(1, 0, api.ErrType, 0), "script 1:1: type"},
		{note(1, 12, api.ErrType, 0), "script 1:13: type"},
		{note(1, 13, api.ErrShape, 0), "script 2:1: shape"},
		{note(1, 14, 19, 0), "script 2:2: error 19"},
		{note(1, 25, -1, 0), "script 2:13: error -1"},
		{note(1, 26, api.ErrSingle, 0), "script 2:13: single"},
		{note(1, -7, api.ErrNull, 0), "script 1:1: null"},
		{note(2, 0, api.ErrFlow, api.WhyPrint), "flow 1:1: flow print"},
		{note(2, 13, api.ErrFlow, api.WhyColumn), "flow 2:1: flow column"},
		{note(2, 12, api.ErrFlow, api.WhyRows), "flow 1:13: flow rows"},
		{note(2, 99, api.ErrFlow, api.WhySaved), "flow 2:13: flow saved"},
		{note(2, -1, api.ErrFlow, api.WhyInput), "flow 1:1: flow input"},
		{note(2, 13, api.ErrKey, api.WhyInput), "flow 2:1: key input"},
		{note(2, 13, 77, api.WhyRows), "flow 2:1: error 77 rows"},
		{note(3, 13, api.ErrFlow, 0), "note 2:1: flow"}, // the script's place
		{note(3, 13, api.ErrFlow, api.WhyPrint), "note 2:1: flow"},
		{note(-1, 14, api.ErrForm, 1), "note 2:2: form"},
		{note(math.MaxInt, 0, api.ErrForm, 5), "note 1:1: form"},
		{note(math.MinInt, 25, -5, 2), "note 2:13: error -5"},
	} {
		check(t, x.n, report.Note(ourSchema, ourScript, x.n), x.want)
	}
}

func TestNoteWhys(t *testing.T) {
	words := map[int]string{1: " print", 2: " column", 3: " rows", 4: " saved", 5: " input"}
	for _, why := range []int{math.MinInt, -5, -1, 0, 1, 2, 3, 4, 5, 6, 7, 99, 1<<32 + 1, math.MaxInt} {
		check(t, why, report.Note("", "x", note(2, 0, api.ErrFlow, why)), "flow 1:1: flow"+words[why])
		for _, part := range []int{-1, 0, 1, 3, 1 << 32, 1<<32 + 2} {
			told := report.Note("", "x", note(part, 0, api.ErrFlow, why))
			check(t, part, told[strings.Index(told, " "):], " 1:1: flow") // of other parts there is no such word
		}
	}
}

// Of each part the place is one of its own text: the schema's of Part 0, of all others the script's.
func TestNoteTexts(t *testing.T) {
	for part, word := range map[int]string{-2: "note", -1: "note", 0: "schema", 1: "script", 2: "flow", 3: "note", 4: "note"} {
		for _, x := range []struct {
			schema, script string
			at             int
			own, other     string
		}{
			{"a\nb", "ab", 2, "2:1", "1:3"},
			{"ab", "a\nb", 2, "1:3", "2:1"},
			{"", "\n\n\n", 2, "1:1", "3:1"},
			{"\n\n\n", "", 3, "4:1", "1:1"},
			{"", "", 5, "1:1", "1:1"},
			{"\n", "\n", 0, "1:1", "1:1"},
			{"é\xff\n", "\r\n\t", 3, "1:4", "2:2"}, // columns count bytes, and lines end with the byte 10 alone
		} {
			place := x.other
			if part == 0 {
				place = x.own
			}
			check(t, part, report.Note(x.schema, x.script, note(part, x.at, api.ErrForm, 0)), word+" "+place+": form")
		}
	}
}

// All parts, errors and whys at all places of texts, against layer 5.
func TestNoteAll(t *testing.T) {
	words := []string{"", " print", " column", " rows", " saved", " input", ""}
	texts := []string{"", "x", "\n", "\n\n", "a\nbc\n\ndef", "one line", "\r\n'\n"}
	for _, schema := range texts {
		for _, script := range texts {
			for at := -2; at < 12; at++ {
				for e := range api.Errno(20) {
					why := (int(e) + at + 7) % 7
					for part, head := range []string{"schema", "script", "flow", "note"} {
						text, tail := script, ""
						if part == 0 {
							text = schema
						}
						if part == 2 {
							tail = words[why]
						}
						line, column := token.Line(text, at)
						want := fmt.Sprintf("%s %d:%d: %s%s", head, line, column, report.Why(e), tail)
						check(t, head, report.Note(schema, script, note(part, at, e, why)), want)
					}
				}
			}
		}
	}
}
