package tool_test

import (
	"fmt"
	"math"
	"strings"
	"testing"

	"cordon/api"
	"cordon/tool"
	"cordon/value"
)

// P25.2

func TestTell(t *testing.T) {
	for _, x := range []struct {
		job  api.Job
		want string
	}{
		{api.Job{}, "#schema\n#script\n#fuel 0\n"},
		{api.Job{Schema: "a\n"}, "#schema\na\n#script\n#fuel 0\n"},
		{api.Job{Schema: "\n"}, "#schema\n\n#script\n#fuel 0\n"},
		{api.Job{Schema: "a\n\nb\n\n", Script: "c #\n #\n"}, "#schema\na\n\nb\n\n#script\nc #\n #\n#fuel 0\n"},
		{api.Job{Script: "x\n"}, "#schema\n#script\nx\n#fuel 0\n"},
		{api.Job{Schema: "\r\n\x00\xff\n"}, "#schema\n\r\n\x00\xff\n#script\n#fuel 0\n"},
		{api.Job{Fuel: 1}, "#schema\n#script\n#fuel 1\n"},
		{api.Job{Fuel: 999999999}, "#schema\n#script\n#fuel 999999999\n"},
		{api.Job{Inputs: one(0)}, "#schema\n#script\n#inputs\n0\n#fuel 0\n"},
		{api.Job{Inputs: one(5, -5, 999999999, -999999999)}, "#schema\n#script\n#inputs\n5\n-5\n999999999\n-999999999\n#fuel 0\n"},
		{api.Job{Loads: one(load("t"))}, "#schema\n#script\n#rows t\n#fuel 0\n"},
		{api.Job{Loads: one(load("t", row(num(1), text("it's"))), load("_9", row(value.Null()), row(value.Bool(false), text("\n#")))), Fuel: 3}, "#schema\n#script\n#rows t\n1, 'it''s'\n#rows _9\nnull\nfalse, '\\0a#'\n#fuel 3\n"},
		{api.Job{Loads: one(load("t", row(num(1))), load("t"), load("t", row(num(1))))}, "#schema\n#script\n#rows t\n1\n#rows t\n#rows t\n1\n#fuel 0\n"},
		{api.Job{Loads: one(load("t", row(num(math.MaxInt64), num(math.MinInt64))))}, "#schema\n#script\n#rows t\n9223372036854775807, -9223372036854775808\n#fuel 0\n"},
		{api.Job{Asks: one(api.Ask{Who: "ann"})}, "#schema\n#script\n#fuel 0\n#ask ann\n"},
		{api.Job{Asks: one(api.Ask{Who: "ann", Query: "q\n\n"}, api.Ask{Who: "7", Query: "\n"}, api.Ask{Who: "ann", Query: "q\n"})}, "#schema\n#script\n#fuel 0\n#ask ann\nq\n\n#ask 7\n\n#ask ann\nq\n"},
		{api.Job{Schema: "s\n", Script: "r\n", Loads: one(load("t", row(num(1)))), Inputs: one(2), Fuel: 3, Asks: one(api.Ask{Who: "a", Query: "q\n"})}, "#schema\ns\n#script\nr\n#rows t\n1\n#inputs\n2\n#fuel 3\n#ask a\nq\n"},
	} {
		tells(t, x.job, x.want)
		tells(t, emptied(x.job), x.want)
	}
}

// wrongTexts are such that can't be lines of a section.
func wrongTexts() []string {
	return []string{"a", " ", "a\nb", "\n\nb", "a\r", "\x00", "#", "#\n", "#a\n", "a\n#\n", "a\n#b\nc\n", "\n#\n", "\n\n#schema\n", "#schema\n", "a\n\n#", "a\n#", "##\n", "a#\n#\n"}
}

// wrongNames are texts that are no names.
func wrongNames() []string {
	return []string{"", " ", "a ", " a", "a b", "a\n", "\n", "a\nb", "a.b", "a-b", "#a", "a#", "é", "aé", "\xff", "a\x00", "'a'", strings.Repeat("a", api.MaxName+1), strings.Repeat("é", 15), strings.Repeat("_", 5000), "\u200b", "ａ", "٣"}
}

// wrongRows are rows that can't be told.
func wrongRows() [][]api.Value {
	out := [][]api.Value{nil, {}, repeated(num(1), api.MaxCols+1), repeated(value.Null(), 5000)}
	for _, v := range []api.Value{
		{Type: 4}, {Type: -1}, {Type: math.MaxInt64}, {Type: math.MinInt64}, {Type: 99, N: 1, S: "a"},
		{N: 1}, {S: "a"}, {N: -1, S: "null"},
		{Type: api.TyBool, N: 2}, {Type: api.TyBool, N: -1}, {Type: api.TyBool, N: 1, S: "a"}, {Type: api.TyBool, S: "true"},
		{Type: api.TyInt, N: 1, S: "a"}, {Type: api.TyInt, S: "1"},
		{Type: api.TyText, N: 1}, {Type: api.TyText, N: 1, S: "a"}, text(strings.Repeat("x", api.MaxText+1)), text(strings.Repeat("\n", api.MaxText+1)),
	} {
		if value.Right(v) == api.OK {
			panic(fmt.Sprint("a right value: ", v))
		}
		out = append(out, row(v), row(num(1), v), row(v, text("a")), append(repeated(num(1), api.MaxCols-1), v))
	}
	return out
}

// wrong is a change of a job by which it can't be told.
type wrong struct {
	what   string
	change func(j *api.Job)
}

func wrongs() []wrong {
	var out []wrong
	add := func(what string, change func(j *api.Job)) { out = append(out, wrong{what, change}) }
	for _, s := range wrongTexts() {
		add(fmt.Sprintf("the schema %q", s), func(j *api.Job) { j.Schema = s })
		add(fmt.Sprintf("the script %q", s), func(j *api.Job) { j.Script = s })
		add(fmt.Sprintf("the query %q", s), func(j *api.Job) { j.Asks = append(j.Asks, api.Ask{Who: "a", Query: s}) })
	}
	for _, s := range wrongNames() {
		add(fmt.Sprintf("the table %q", s), func(j *api.Job) { j.Loads = append(j.Loads, load(s)) })
		add(fmt.Sprintf("the principal %q", s), func(j *api.Job) { j.Asks = append(j.Asks, api.Ask{Who: s, Query: "x\n"}) })
	}
	for _, n := range []int{-1, -999999999, 1000000000, math.MaxInt32, math.MaxInt64, math.MinInt64, math.MinInt32} {
		add(fmt.Sprint("the fuel ", n), func(j *api.Job) { j.Fuel = n })
	}
	for _, n := range []int{1000000000, -1000000000, math.MaxInt64, math.MinInt64, math.MaxInt32, math.MinInt32} {
		add(fmt.Sprint("the input ", n), func(j *api.Job) { j.Inputs = append(j.Inputs, n) })
	}
	for i, r := range wrongRows() {
		add(fmt.Sprint("the row ", i), func(j *api.Job) { j.Loads = append(j.Loads, load("t", r)) })
	}
	return out
}

// rightJobs are such to which something wrong is added.
func rightJobs() []api.Job {
	return []api.Job{
		{},
		{Schema: "a\n", Script: "b\n", Loads: one(load("t", row(num(1))), load("u", row(text("a")))), Inputs: one(1, 2), Fuel: 5, Asks: one(api.Ask{Who: "a", Query: "x\n"}, api.Ask{Who: "b"})},
	}
}

// Each thing that may not be, and two of them at once.
func TestTellRefuses(t *testing.T) {
	for _, j := range rightJobs() {
		if _, err := tool.Tell(j); err != api.OK {
			t.Fatal(err)
		}
		for _, a := range wrongs() {
			x := with(j, a.change)
			refused(t, a.what, x, api.ErrForm)
			for i, b := range wrongs() {
				if i%7 == 0 {
					refused(t, a.what+" and "+b.what, with(x, b.change), api.ErrForm)
				}
			}
		}
	}
}

// A wrong one among others that are right, at any place.
func TestTellRefusesAnyPlace(t *testing.T) {
	for at := range 4 {
		rows := numbered(4, func(i int) []api.Value { return row(num(i)) })
		rows[at] = nil
		refused(t, "rows", api.Job{Loads: one(load("t", rows...))}, api.ErrForm)
		loads := numbered(4, func(i int) api.Load { return load("t", row(num(i))) })
		loads[at].Table = "t t"
		refused(t, "loads", api.Job{Loads: loads}, api.ErrForm)
		inputs := one(1, 2, 3, 4)
		inputs[at] = 1000000000
		refused(t, "inputs", api.Job{Inputs: inputs}, api.ErrForm)
		asks := numbered(4, func(int) api.Ask { return api.Ask{Who: "a", Query: "x\n"} })
		asks[at].Query = "x"
		refused(t, "asks", api.Job{Asks: asks}, api.ErrForm)
	}
}

// Names, rows and texts that just may be.
func TestTellEdges(t *testing.T) {
	name := strings.Repeat("Z", api.MaxName)
	full := strings.Repeat("x", api.MaxText)
	tells(t, api.Job{Loads: one(load(name)), Asks: one(api.Ask{Who: name})}, "#schema\n#script\n#rows "+name+"\n#fuel 0\n#ask "+name+"\n")
	tells(t, api.Job{Loads: one(load("t", row(text(full))))}, "#schema\n#script\n#rows t\n'"+full+"'\n#fuel 0\n")
	tells(t, api.Job{Loads: one(load("t", repeated(num(1), api.MaxCols)))}, "#schema\n#script\n#rows t\n"+strings.Repeat("1, ", api.MaxCols-1)+"1\n#fuel 0\n")
	refused(t, "a full row of full texts", api.Job{Loads: one(load("t", repeated(text(full), api.MaxCols)))}, api.ErrMany)
}

// filled are jobs of which the text has just so many bytes.
func filled(n int) map[string]api.Job {
	const bare = len("#schema\n#script\n#fuel 0\n")
	line := func(n int) string { return strings.Repeat("x", n-1) + "\n" }
	left := n - bare
	inputs := left - len("#inputs\n")
	rows := left - len("#rows t\n")
	return map[string]api.Job{
		"schema": {Schema: line(left)}, "script": {Script: line(left)}, "both": {Schema: line(left / 2), Script: line(left - left/2)}, "empty lines": {Script: strings.Repeat("\n", left)},
		"ask":    {Asks: one(api.Ask{Who: "a", Query: line(left - len("#ask a\n"))})},
		"asks":   {Asks: append(numbered(100, func(int) api.Ask { return api.Ask{Who: "a"} }), api.Ask{Who: "b", Query: line(left - 101*len("#ask a\n"))})},
		"inputs": {Inputs: append(numbered((inputs-3)/2, func(int) int { return 1 }), one(-10, 22)[inputs%2])},
		"rows":   {Loads: one(load("t", append(numbered((rows-3)/2, func(int) []api.Value { return row(num(1)) }), row(num(one(-10, 22)[rows%2])))...))},
	}
}

func TestTellTooLong(t *testing.T) {
	for _, n := range []int{1000, api.MaxSource - 1, api.MaxSource} {
		for what, j := range filled(n) {
			s, err := tool.Tell(j)
			check(t, what, err, api.OK)
			check(t, what, len(s), n)
			parses(t, s, j)
		}
	}
	for _, n := range []int{api.MaxSource + 1, api.MaxSource + 2, 2 * api.MaxSource, 1 << 20} {
		for what, j := range filled(n) {
			refused(t, what, j, api.ErrMany)
			if n > api.MaxSource+1 {
				continue
			}
			for i, a := range wrongs() { // what may not be is told ahead of what is too long
				if i%3 == 0 && !strings.HasPrefix(a.what, "the s") { // a text in place of the long one makes the job short
					refused(t, what+" and "+a.what, with(j, a.change), api.ErrForm)
				}
			}
			refused(t, what, with(j, func(j *api.Job) { j.Schema += "x" }), api.ErrForm)
			refused(t, what, with(j, func(j *api.Job) { j.Script = "#\n" + j.Script }), api.ErrForm)
		}
	}
}
