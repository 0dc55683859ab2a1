package tool_test

import (
	"math"
	"math/rand"
	"strings"
	"testing"

	"cordon/api"
	"cordon/tool"
)

// oddTexts are texts that are empty, very long, or no texts at all.
func oddTexts() []string {
	long := strings.Repeat
	return []string{
		"", " ", "\n", "\r\n", "\x00", "\xff\xfe", "\ufeff", "\ufeff#schema\n", "\u2028", "é", "--", "'", "#", "##", "#\n#\n#", "# # #", "\n#", "#é", "#\x00", "#\xff\xff",
		"#schema", "#schema\n\x00", "#schema\r\nlevels low;\r\n", "#script\n'", "#rows t\n'", "#rows t\n\xff", "#ask a\n'", "#inputs\n\x00", "#fuel 9\n\x00", "#fuel " + long("9", 10000), "#rows " + long("t", 10000), "#inputs\n" + long("-", 10000), "#rows t\n" + long("1, ", 6000), "#rows t\n'" + long("x", 15000) + "'",
		long("\n", api.MaxSource), long("#", api.MaxSource), long("#\n", api.MaxSource/2), long("#schema\n", api.MaxSource/8), long("#rows t\n", api.MaxSource/8), long("#ask a\n", api.MaxSource/7), long("#fuel 1\n", api.MaxSource/8), long("#inputs\n1\n", api.MaxSource/10), "#rows t\n" + long("\n", 19000), "#rows t\n" + long("1\n", 9000), "#schema\n" + long("x", api.MaxSource-8), "#script\n" + long("(", 15000),
		long("x", api.MaxSource+1), long("\n", api.MaxSource+1), long("#schema\n", api.MaxSource), long("\x00", 1<<22), long("#ask a\nselect 1 as x\n", 1<<16),
	}
}

// P1: of odd texts Parse and Run end, and answer as the second ways do.
func TestOddTexts(t *testing.T) {
	for _, s := range oddTexts() {
		holdsParse(t, s)
		if j, _, err := tool.Parse(s); err == api.OK {
			does(t, s, secondRun(j))
		}
		for _, of := range one("", s, "x", "#\n", "#schema\nlevels low;\n") {
			holdsParse(t, of+s)
			holdsParse(t, s+of)
		}
	}
}

// The same of bytes at random.
func TestRandomBytes(t *testing.T) {
	for seed := range 20000 {
		r := rand.New(rand.NewSource(int64(seed)))
		s := string(numbered(r.Intn(60), func(int) byte {
			if r.Intn(3) == 0 {
				return byte(r.Intn(256))
			}
			return "\n\n##  schemaipfuelrows019_-',"[r.Intn(28)]
		}))
		holdsParse(t, s)
		holdsParse(t, "#"+s)
		holdsParse(t, []string{"#rows t\n", "#inputs\n", "#fuel ", "#ask ", "#rows ", "#fuel 1\n"}[r.Intn(6)]+s)
	}
}

// oddJobs are jobs put together by hand of what may not be, very many and very long.
func oddJobs() []api.Job {
	long := strings.Repeat("x", 1<<20)
	odd := api.Value{Type: math.MinInt64, N: math.MaxInt64, S: "\n#"}
	return []api.Job{
		{}, {Schema: long}, {Schema: long + "\n"}, {Script: strings.Repeat("\n", 1<<20)}, {Script: strings.Repeat("\n#", 1<<18) + "\n"}, {Fuel: math.MaxInt64}, {Fuel: math.MinInt64},
		{Inputs: make([]int, 1<<20)}, {Inputs: one(math.MinInt64)}, {Loads: make([]api.Load, 1<<18)}, {Asks: make([]api.Ask, 1<<18)}, {Loads: one(api.Load{Table: long})}, {Asks: one(api.Ask{Who: long, Query: long})}, {Asks: one(api.Ask{Who: "a", Query: long + "\n"})},
		{Loads: one(load("t", make([][]api.Value, 1<<18)...))}, {Loads: one(load("t", make([]api.Value, 1<<18)))}, {Loads: one(load("t", repeated(odd, 1000)))}, {Loads: one(load("t", row(text(long))))}, {Loads: one(load("t", row(text(long)), nil))}, {Loads: one(load("\xff\xfe", row(odd)))}, {Loads: one(load("t", row(odd), row(num(1))))},
		{Loads: numbered(3000, func(int) api.Load { return load("t", row(num(1))) })}, {Asks: numbered(3000, func(int) api.Ask { return api.Ask{Who: "a"} })},
	}
}

// P1: Tell of odd jobs ends, and answers as the second way does.
func TestOddJobs(t *testing.T) {
	for i, j := range oddJobs() {
		want, err := secondTell(j)
		got, wrong := tool.Tell(j)
		check(t, i, wrong, err)
		check(t, i, got, want)
	}
}

// P1: jobs that do very much end, too: queries in queries, joins of joins, loops, and as many asks as there is room for.
func TestMuch(t *testing.T) {
	rows := numbered(100, func(int) string { return "1" })
	big := "levels low; channel out low; principal ann low; table t rows low (a int low);"
	nest := "select a as x from t"
	for range 12 {
		nest = "select a as x from t where a in (" + nest + ")"
	}
	joins := "select count(*) as x from t as a join t as b on a.a < b.a join t as c on true"
	asks := numbered(20, func(i int) string { return one(nest, joins)[i%2] })
	l := append(one("#schema", big, "#script", "var x int; for x in "+nest+" { print out (select count(*) as c from t as a join t as b on a.a < b.a); }", "#rows t"), rows...)
	l = append(l, "#fuel 5000")
	want := append(one("accepted"), numbered(100, func(int) string { return "out 0" })...)
	want = append(append(want, "end ok", "table t"), rows...)
	for i, q := range asks {
		l = append(l, "#ask ann", q)
		want = append(want, "ask ann")
		if i%2 == 0 {
			want = append(want, rows...)
		} else {
			want = append(want, "0")
		}
	}
	does(t, lines(l...), lines(want...))
	small := append(one("#schema", big, "#fuel 9", "#rows t", "7"), numbered(600, func(int) string { return "#ask ann\nselect a as x from t" })...)
	does(t, lines(small...), "accepted\nend ok\ntable t\n7\n"+strings.Repeat("ask ann\n7\n", 600))
}
