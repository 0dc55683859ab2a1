package app_test

import (
	"math"
	"math/rand"
	"strings"
	"testing"

	"cordon/api"
	"cordon/app"
	"cordon/value"
)

// oddTexts are texts that are empty, very long, or no texts at all.
func oddTexts() []string {
	long := func(s string, n int) string { return strings.Repeat(s, n) }
	return []string{
		"", " ", "\n", "\x00", "\xff\xfe", "\ufeffskip;", "\u2028", "é", "--", "'", "''", "$", "((((", "}}}}", ";", ":", "null", "0", long("9", 30),
		long("x", api.MaxSource), long("x ", api.MaxSource), long("(", api.MaxSource), long("\x00", 1<<20), long("skip;", 1<<18), long("'", 1<<18), long("levels low;", 1<<16), long("-- \n", 5000), long(" ", api.MaxSource),
		"print out " + long("-", 39) + "1;", "print out " + long("(", 5000), long("if true {", 5000), long("try { } catch {", 3000), "levels " + long("a,", 9000), long("proc p() { ", 100), "table t rows low (" + long("a int low,", 1500),
	}
}

// P1: New of odd texts ends, and answers one note, or an application.
func TestOddTexts(t *testing.T) {
	for _, of := range append(oddTexts(), base, "levels low;", room) {
		for _, text := range append(oddTexts(), "print out 1;") {
			a, notes := app.New(of, text)
			want, is := second(of, text)
			check(t, of+" and "+text, notesTold(notes), notesTold(want))
			check(t, of+" and "+text, a != nil, is)
			if a == nil && (len(notes) != 1 || notes[0].Err == api.OK || notes[0].Why != 0) {
				t.Errorf("%s and %s: %+v", cut(of), cut(text), notes)
			}
			a.Run(nil, nil, 5)
			a.Verdict()
		}
	}
}

// P1: texts of any bytes, and of any tokens.
func TestAnyTexts(t *testing.T) {
	rnd := rand.New(rand.NewSource(5))
	words := strings.Fields("levels low high order < ; , table t rows ( ) a int null key hide when = 1 channel out principal limit print set x proc p { } if else while for in select as from where insert into values update delete try catch raise call begin commit rollback skip input var 'x' : + - $ not exists")
	made := func() string {
		if rnd.Intn(4) == 0 {
			b := make([]byte, rnd.Intn(40))
			rnd.Read(b)
			return string(b)
		}
		return strings.Join(numbered(rnd.Intn(30), func(int) string { return words[rnd.Intn(len(words))] }), " ")
	}
	for range 20000 {
		of, text := made(), made()
		if rnd.Intn(2) == 0 {
			of = base
		}
		_, notes := app.New(of, text)
		want, _ := second(of, text)
		check(t, of+" and "+text, notesTold(notes), notesTold(want))
	}
}

// oddTables are tables too many and too few, and rows that do not fit.
func oddTables() []tablesOf {
	out := []tablesOf{nil, {}, {nil}, {{nil}}, {{{}}}, make(tablesOf, 3), make(tablesOf, 4), make(tablesOf, 10000), {make([][]api.Value, 10000)}, {{make([]api.Value, 10000)}}, {nil, nil, {nil}}, tables(few), tables(few + "|"), tables("1 2; 1 2")}
	for _, kind := range []int{math.MinInt, -1, 0, 1, 2, 3, 4, math.MaxInt} {
		for _, n := range []int{math.MinInt, -1, 0, 1, 2, math.MaxInt} {
			for _, s := range []string{"", "x", strings.Repeat("x", api.MaxText+1)} {
				v := api.Value{Type: kind, N: n, S: s}
				out = append(out, tablesOf{{{v, v}}}, tablesOf{nil, {{value.Int(1), v}}}, tablesOf{{}, {}, {{v, v, v}, nil}}, tablesOf{{{v}}})
			}
		}
	}
	return out
}

// P1: Run of odd tables, inputs and fuel ends, with an error beside which there is nothing, or as layers 12 and 16 answer; P2: a run behind them is as ever.
func TestOddRuns(t *testing.T) {
	const text = "var x int; input x; print out :x; update t set b = :x; insert into w values (:x, 'x', null); while true { skip; }"
	a := accepted(t, room, text)
	was := answerOf(a.Run(tables(few), one(1), 50))
	inputs := [][]int{nil, {}, {math.MinInt}, {math.MaxInt, 0}, make([]int, 100000)}
	came := map[api.Errno]int{}
	for i, rows := range oddTables() {
		got := seeing(t, a, room, text, rows, inputs[i%len(inputs)], one(math.MinInt, -1, 0, 1, 7, math.MaxInt)[i%6])
		came[got.err]++
		check(t, rows, (got.tables == nil) == (got.err != api.ErrFuel), true)
	}
	check(t, "as ever", answerOf(a.Run(tables(few), one(1), 50)).same(was), true)
	enough(t, came, 1, api.ErrFuel, api.ErrArg, api.ErrShape, api.ErrNull, api.ErrType, api.ErrMany, api.ErrKey)
}

// P1: scripts that are as long, as deep and go round as far as they may.
func TestGreatScripts(t *testing.T) {
	for text, want := range map[string]string{
		strings.Repeat("print out 1; ", 1400):                                                                                 "ErrFuel",
		strings.Repeat("if true {", 38) + "print out 1;" + strings.Repeat("}", 38):                                            "1 OK",
		strings.Repeat("try {", 39) + "raise;" + strings.Repeat("} catch { raise; }", 39):                                     "ErrRaise",
		"print out -" + strings.Repeat("(", 37) + "1" + strings.Repeat(")", 37) + ";":                                         "-1 OK",
		listed(240, "proc p#() { call q#(); } proc q#() { call p#(); } ") + "call p7();":                                      "ErrFuel",
		listed(500, "var v# int; ") + listed(500, "set v# = 1; ") + "print out :v499;":                                        "1 OK",
		"proc p(n int) { if :n > 1 { call p(:n - 1); } else { print out :n; } } call p(50);":                                  "1 OK",
		"proc p(n int) { if :n > 1 { call p(:n - 1); } else { print out :n; } } call p(51);":                                  "ErrFuel",
		"var x int; set x = 0; while :x < 800 { set x = :x + 1; } print out :x;":                                              "800 OK",
		"insert into t values (1, 1); insert into t values (2, 1); insert into t values (3, 1); insert into t values (4, 1);": "ErrRows",
	} {
		a := accepted(t, room, text)
		fuel := api.MaxFuel
		if want == "ErrFuel" {
			fuel = 1000
		}
		got := seeing(t, a, room, text, nil, nil, fuel)
		if len(got.told) > 1 {
			got.told = nil
		}
		got.tables = nil
		check(t, text, got.String(), want)
	}
}
