package tool_test

import (
	"fmt"
	"strings"
	"testing"

	"cordon/api"
	"cordon/tool"
)

// P25.1

func TestParseSections(t *testing.T) {
	for _, x := range []struct {
		text string
		want api.Job
	}{
		{"", api.Job{}},
		// without lines
		{"#schema\n", api.Job{}}, {"#script\n", api.Job{}}, {"#inputs\n", api.Job{}}, {"#fuel 0\n", api.Job{}}, {"#fuel 7\n", api.Job{Fuel: 7}},
		{"#rows t\n", api.Job{Loads: one(load("t"))}},
		{"#ask ann\n", api.Job{Asks: one(api.Ask{Who: "ann"})}},
		// with lines
		{"#schema\na\n", api.Job{Schema: "a\n"}},
		{"#schema\na\nb c\n", api.Job{Schema: "a\nb c\n"}},
		{"#schema\n\n", api.Job{Schema: "\n"}},
		{"#schema\n\n\na\n\n", api.Job{Schema: "\n\na\n\n"}},
		{"#schema\n \n\t\n #script\n", api.Job{Schema: " \n\t\n #script\n"}}, // a mark that is not the line's first byte begins nothing
		{"#schema\na#b\n\r\n\x00\xff\n", api.Job{Schema: "a#b\n\r\n\x00\xff\n"}},
		{"#script\nprint out 1;\n\nskip;\n", api.Job{Script: "print out 1;\n\nskip;\n"}},
		{"#rows t\n1\n", api.Job{Loads: one(load("t", row(num(1))))}},
		{"#rows t\n1, null, 'it''s'\ntrue\n-5, '\\0a#'\n", api.Job{Loads: one(load("t", row(num(1), api.Value{}, text("it's")), row(api.Value{Type: api.TyBool, N: 1}), row(num(-5), text("\n#"))))}},
		{"#rows t\n1\n\n2\n", api.Job{Loads: one(load("t", row(num(1)), nil, row(num(2))))}}, // the empty text is the row of no value
		{"#rows t\n\n", api.Job{Loads: one(load("t", nil))}},
		{"#inputs\n1\n-2\n0\n", api.Job{Inputs: one(1, -2, 0)}},
		{"#fuel 9\n\n\n\n", api.Job{Fuel: 9}},
		{"#ask ann\nselect 1 as x\n", api.Job{Asks: one(api.Ask{Who: "ann", Query: "select 1 as x\n"})}},
		{"#ask ann\n\nselect\n\n1 as x\n\n", api.Job{Asks: one(api.Ask{Who: "ann", Query: "\nselect\n\n1 as x\n\n"})}},
		// all of them, in any order
		{"#schema\ns\n#script\nr\n#rows t\n1\n#inputs\n2\n#fuel 3\n#ask a\nq\n", api.Job{Schema: "s\n", Script: "r\n", Loads: one(load("t", row(num(1)))), Inputs: one(2), Fuel: 3, Asks: one(api.Ask{Who: "a", Query: "q\n"})}},
		{"#ask a\nq\n#fuel 3\n#inputs\n2\n#rows t\n1\n#script\nr\n#schema\ns\n", api.Job{Schema: "s\n", Script: "r\n", Loads: one(load("t", row(num(1)))), Inputs: one(2), Fuel: 3, Asks: one(api.Ask{Who: "a", Query: "q\n"})}},
		{"#schema\n#script\n#rows t\n#inputs\n#fuel 0\n#ask a\n", api.Job{Loads: one(load("t")), Asks: one(api.Ask{Who: "a"})}},
	} {
		parses(t, x.text, x.want)
	}
}

// Of texts and the fuel what is told last counts, inputs stand behind those told ahead, Loads and Asks one behind the other.
func TestParseTwice(t *testing.T) {
	for _, x := range []struct {
		text string
		want api.Job
	}{
		{"#schema\na\n#schema\nb\nc\n", api.Job{Schema: "b\nc\n"}},
		{"#schema\na\n#schema\n", api.Job{}}, // told last is none
		{"#schema\n#schema\nb\n", api.Job{Schema: "b\n"}},
		{"#schema\na\n#script\nx\n#schema\nb\n", api.Job{Schema: "b\n", Script: "x\n"}},
		{"#script\na\n#script\nb\n", api.Job{Script: "b\n"}},
		{"#script\na\n#script\n", api.Job{}},
		{"#script\na\n#schema\nx\n#script\nb\n#schema\ny\n", api.Job{Schema: "y\n", Script: "b\n"}},
		{"#rows t\n1\n#rows t\n2\n", api.Job{Loads: one(load("t", row(num(1))), load("t", row(num(2))))}},
		{"#rows t\n1\n#rows u\n#rows t\n2\n3\n", api.Job{Loads: one(load("t", row(num(1))), load("u"), load("t", row(num(2)), row(num(3))))}},
		{"#inputs\n1\n2\n#inputs\n3\n", api.Job{Inputs: one(1, 2, 3)}},
		{"#inputs\n1\n#fuel 2\n#inputs\n#inputs\n3\n4\n", api.Job{Inputs: one(1, 3, 4), Fuel: 2}},
		{"#fuel 1\n#fuel 2\n", api.Job{Fuel: 2}},
		{"#fuel 5\n\n#fuel 0\n", api.Job{}},
		{"#fuel 9\n#schema\n#fuel 3\n", api.Job{Fuel: 3}},
		{"#ask a\nx\n#ask a\ny\n", api.Job{Asks: one(api.Ask{Who: "a", Query: "x\n"}, api.Ask{Who: "a", Query: "y\n"})}},
		{"#ask a\nx\n#ask b\n#ask a\nx\n", api.Job{Asks: one(api.Ask{Who: "a", Query: "x\n"}, api.Ask{Who: "b"}, api.Ask{Who: "a", Query: "x\n"})}},
	} {
		parses(t, x.text, x.want)
	}
}

// What stands ahead of the first section must be empty lines.
func TestParseAhead(t *testing.T) {
	for n := range 5 {
		empty := strings.Repeat("\n", n)
		parses(t, empty, api.Job{})
		parses(t, empty+"#fuel 9\n", api.Job{Fuel: 9})
		parses(t, empty+"#schema\na", api.Job{Schema: "a\n"})
		for _, other := range []string{" ", "x", "\r", "\t", "schema", " #schema", "1", "null", "-- a remark", "\x00", "\xff", "\ufeff", ";"} {
			stops(t, empty+other, n+1, api.ErrForm)
			stops(t, empty+other+"\n", n+1, api.ErrForm)
			stops(t, empty+other+"\n#schema\na\n", n+1, api.ErrForm)
			stops(t, empty+other+"#schema\n", n+1, api.ErrForm)
			stops(t, empty+other+"\n#nosuch\n", n+1, api.ErrForm)
		}
	}
}

// The last line need not be ended.
func TestParseLastLine(t *testing.T) {
	for _, s := range []string{
		"#schema\na", "#schema\na\n\nb", "#schema", "#script\na", "#script", "#rows t\n1", "#rows t\n1\n'a'", "#rows t", "#inputs\n1", "#inputs\n1\n-2", "#inputs", "#fuel 9", "#fuel 0", "#ask a\nx", "#ask a\nx\ny", "#ask a", "#schema\na\n#fuel 7", "\n\n#fuel 7",
	} {
		got, _, _ := tool.Parse(s)
		want, at, err := tool.Parse(s + "\n")
		check(t, s, at == 0 && err == api.OK && same(got, want), true)
		parses(t, s, want)
	}
	parses(t, "#schema\na", api.Job{Schema: "a\n"})
	parses(t, "#schema\n\n\n ", api.Job{Schema: "\n\n \n"})
	parses(t, "#ask a\nx\ny", api.Job{Asks: one(api.Ask{Who: "a", Query: "x\ny\n"})})
	parses(t, "#rows t\n1\n2", api.Job{Loads: one(load("t", row(num(1)), row(num(2))))})
	stops(t, "#fuel 9\nx", 2, api.ErrForm)
	stops(t, "#inputs\n1\nx", 3, api.ErrForm)
	stops(t, "#rows t\n1\nx", 3, api.ErrForm)
	stops(t, "#schema\na\n#", 3, api.ErrForm)
}

// headsThatCanNot are lines that begin with # and begin no section.
func headsThatCanNot() []string {
	long := strings.Repeat("a", api.MaxName+1)
	out := []string{
		"#", "##", "# ", "#\t", "# schema", "##schema", "#Schema", "#SCHEMA", "#schemas", "#schem", "#schemascript", "#nosuch", "#nosuch a", "#row t", "#Rows t", "#input", "#asks a", "#name", "#1", "#-- a remark", "#\x00", "#\xff", "#schéma", "#script#", "#table t",
		"#schema ", "#schema  ", "#schema a", "#schema 1", "#schema\t", "#schema\r", "#schema;", "#script ", "#script a", "#script\r", "#inputs ", "#inputs 1", "#inputs a", "#inputs\t", "#inputs -",
		"#rows", "#rows ", "#rows  ", "#rows  t", "#rows t ", "#rows t  ", "#rows t u", "#rows\tt", "#rows t\t", "#rows t\r", "#rowst", "#rows #t", "#rows t.u", "#rows -", "#rows t-u", "#rows 't'", "#rows é", "#rows \xff", "#rows " + long,
		"#ask", "#ask ", "#ask  ", "#ask  a", "#ask a ", "#ask a b", "#ask\ta", "#ask a\r", "#aska", "#ask a,b", "#ask (a)", "#ask a\x00", "#ask " + long,
		"#fuel", "#fuel ", "#fuel  ", "#fuel  1", "#fuel 1 ", "#fuel 1 2", "#fuel\t1", "#fuel 1\r", "#fuel1", "#fuel a", "#fuel 1a", "#fuel a1", "#fuel '1'", "#fuel null",
	}
	for _, n := range numbersThatCanNot() {
		out = append(out, "#fuel "+n)
	}
	return append(out, "#fuel -1", "#fuel -9", "#fuel -999999999")
}

// A line that begins with #, and begins no section, can't be so, wherever it stands.
func TestParseHeads(t *testing.T) {
	for _, head := range headsThatCanNot() {
		for _, ahead := range []string{"", "\n", "\n\n", "#schema\n", "#schema\na\n\n", "#script\nx\n", "#rows t\n", "#rows t\n1\n2\n", "#inputs\n", "#inputs\n1\n", "#fuel 9\n", "#fuel 9\n\n", "#ask a\n", "#ask a\nx\ny\n"} {
			at := strings.Count(ahead, "\n") + 1
			for _, behind := range []string{"", "\n", "\na", "\na\n", "\n1\n", "\n#schema\n", "\n#fuel 3", "\n#\n"} {
				stops(t, ahead+head+behind, at, api.ErrForm)
			}
		}
	}
}

func TestParseNames(t *testing.T) {
	named := func(name string) {
		t.Helper()
		parses(t, "#rows "+name+"\n1\n", api.Job{Loads: one(load(name, row(num(1))))})
		parses(t, "#ask "+name+"\nx\n", api.Job{Asks: one(api.Ask{Who: name, Query: "x\n"})})
	}
	for _, name := range []string{"t", "T", "z", "Z", "a", "A", "_", "0", "9", "007", "1a", "a1", "__", "aB_9", "select", "table", "null", "rows", "ask", "true"} {
		named(name)
	}
	for n := 1; n <= api.MaxName; n++ {
		named(strings.Repeat("x", n))
		named(strings.Repeat("9", n))
		named(strings.Repeat("_", n))
	}
	for _, n := range []int{api.MaxName + 1, api.MaxName + 2, 100, 10000} {
		stops(t, "#rows "+strings.Repeat("x", n), 1, api.ErrForm)
		stops(t, "#ask "+strings.Repeat("9", n)+"\nx\n", 1, api.ErrForm)
	}
	stops(t, "#rows "+strings.Repeat("é", api.MaxName/2), 1, api.ErrForm)
}

// Each byte, ahead of, in and behind a name.
func TestParseNameBytes(t *testing.T) {
	const may = "abcdefghijklmnopqrstuvwxyzABCDEFGHIJKLMNOPQRSTUVWXYZ0123456789_"
	for c := range 256 {
		b := string([]byte{byte(c)})
		for _, name := range []string{b, "a" + b, b + "a", "a" + b + "a"} {
			switch {
			case strings.Contains(may, b):
				parses(t, "#rows "+name+"\n", api.Job{Loads: one(load(name))})
				parses(t, "#ask "+name+"\n", api.Job{Asks: one(api.Ask{Who: name})})
			case b == "\n" && strings.HasPrefix(name, "a"): // the head is ended there
			default:
				stops(t, "#rows "+name+"\n", 1, api.ErrForm)
				stops(t, "#ask "+name+"\n", 1, api.ErrForm)
			}
		}
	}
}

// numbersThatCan are numbers of at most nine digits, as texts.
func numbersThatCan() map[string]int {
	return map[string]int{"0": 0, "1": 1, "9": 9, "10": 10, "100": 100, "123456789": 123456789, "999999999": 999999999, "100000000": 100000000, "99999999": 99999999, "5000": 5000, "5001": 5001}
}

// numbersThatCanNot are such that may neither be fuel nor an input.
func numbersThatCanNot() []string {
	return []string{
		"00", "01", "007", "0000000000", "0123456789", "000000001", "1000000000", "1234567890", "9999999999", "9223372036854775807", "9223372036854775808", "18446744073709551616", "18446744073709551617", strings.Repeat("9", 400), strings.Repeat("0", 400),
		"-0", "-00", "-01", "-", "--1", "-1000000000", "-1234567890", "-9223372036854775808", "-9223372036854775809", "+1", "+0", "+", "+-1", "-+1", "1.0", "1.", ".5", "1e3", "0x1", "0b1", "1_000", "1,000", "1-", "1+", "٣", "１", "1\x00", "\xff",
	}
}

func TestParseNumbers(t *testing.T) {
	for s, n := range numbersThatCan() {
		parses(t, "#fuel "+s+"\n", api.Job{Fuel: n})
		parses(t, "#inputs\n"+s+"\n", api.Job{Inputs: one(n)})
		if n == 0 {
			continue
		}
		parses(t, "#inputs\n-"+s+"\n"+s+"\n", api.Job{Inputs: one(-n, n)})
		stops(t, "#fuel -"+s+"\n", 1, api.ErrForm)
	}
	for _, s := range numbersThatCanNot() {
		stops(t, "#fuel "+s+"\n", 1, api.ErrForm)
		stops(t, "#inputs\n"+s+"\n", 2, api.ErrForm)
		stops(t, "#inputs\n1\n2\n"+s, 4, api.ErrForm)
	}
	for _, s := range []string{"", " ", " 1", "1 ", "1 2", "1, 2", "- 1", "-1 ", "\t1", "1\r", "a", "null", "true", "'1'", "inputs", "1;"} {
		stops(t, "#inputs\n"+s+"\n", 2, api.ErrForm)
		stops(t, "#inputs\n7\n"+s+"\n#fuel 1\n", 3, api.ErrForm)
	}
	for n := range 1100 {
		s := fmt.Sprint(n)
		parses(t, "#fuel "+s+"\n#inputs\n"+s+"\n", api.Job{Fuel: n, Inputs: one(n)})
	}
}

// Behind #fuel nothing but empty lines may stand.
func TestParseFuelLines(t *testing.T) {
	for n := range 4 {
		empty := strings.Repeat("\n", n)
		parses(t, "#fuel 9\n"+empty, api.Job{Fuel: 9})
		parses(t, "#fuel 9\n"+empty+"#schema\na\n", api.Job{Fuel: 9, Schema: "a\n"})
		for _, other := range []string{" ", "x", "1", "9", "\r", "\t", "-", "null", " #schema", "-- a remark"} {
			stops(t, "#fuel 9\n"+empty+other, n+2, api.ErrForm)
			stops(t, "#fuel 9\n"+empty+other+"\n", n+2, api.ErrForm)
			stops(t, "#schema\na\n#fuel 9\n"+empty+other+"\n#fuel 8\n", n+4, api.ErrForm)
		}
	}
}

// Of a row report.Read's error is told, at its line.
func TestParseRows(t *testing.T) {
	crowd := strings.Repeat("1, ", api.MaxCols) + "1"
	long := "'" + strings.Repeat("x", api.MaxText+1) + "'"
	for _, x := range []struct {
		row  string
		want api.Errno
	}{
		{"x", api.ErrForm}, {"1,2", api.ErrForm}, {"1, ", api.ErrForm}, {" 1", api.ErrForm}, {"1 ", api.ErrForm}, {" ", api.ErrForm}, {"01", api.ErrForm}, {"-0", api.ErrForm}, {"Null", api.ErrForm}, {"'", api.ErrForm}, {"'a", api.ErrForm}, {`'\41'`, api.ErrForm}, {"9223372036854775808", api.ErrForm}, {"1\r", api.ErrForm}, {"1, #", api.ErrForm},
		{crowd, api.ErrMany}, {long, api.ErrMany}, {"1, " + long, api.ErrMany}, {crowd + ", x", api.ErrForm}, {long + ",", api.ErrForm},
	} {
		stops(t, "#rows t\n"+x.row, 2, x.want)
		stops(t, "#rows t\n"+x.row+"\n", 2, x.want)
		stops(t, "#rows t\n1\n2\n"+x.row+"\n3\n", 4, x.want)
		stops(t, "#schema\na\n#rows t\n1\n#rows t\n"+x.row+"\n#fuel x\n", 6, x.want)
	}
	most := strings.TrimSuffix(crowd, ", 1")
	parses(t, "#rows t\n"+most+"\n", api.Job{Loads: one(load("t", repeated(num(1), api.MaxCols)))})
	full := strings.Repeat("x", api.MaxText)
	parses(t, "#rows t\n'"+full+"'\n", api.Job{Loads: one(load("t", row(text(full))))})
}

// Of two lines that can't be so the first one is told.
func TestParseFirst(t *testing.T) {
	many := strings.Repeat("1, ", api.MaxCols) + "1"
	wrong := []struct {
		text string
		at   int
		err  api.Errno
	}{
		{"#\n", 1, api.ErrForm}, {"#schema \n", 1, api.ErrForm}, {"#rows\n", 1, api.ErrForm}, {"#rows t\nx\n", 2, api.ErrForm}, {"#rows t\n" + many + "\n", 2, api.ErrMany}, {"#rows t\n1\n" + many + "\n", 3, api.ErrMany}, {"#inputs\n1\n+1\n", 3, api.ErrForm}, {"#fuel 00\n", 1, api.ErrForm}, {"#fuel 1\n\n\n7\n", 4, api.ErrForm}, {"#ask a.b\n", 1, api.ErrForm}, {"#nosuch\n", 1, api.ErrForm},
	}
	for _, a := range wrong {
		for _, b := range wrong {
			for _, right := range []string{"", "#schema\n\n\n", "#fuel 1\n", "#rows t\n1\n2\n3\n"} {
				stops(t, right+a.text+b.text, strings.Count(right, "\n")+a.at, a.err)
				stops(t, right+a.text+right+b.text, strings.Count(right, "\n")+a.at, a.err)
			}
		}
	}
	stops(t, "#rows t\n"+many+"\nx\n", 2, api.ErrMany)
	stops(t, "#rows t\nx\n"+many+"\n", 2, api.ErrForm)
	stops(t, "x\n#rows t\n"+many+"\n", 1, api.ErrForm)
}

func TestParseTooLong(t *testing.T) {
	fill := func(head string, n int, with string) string { return head + strings.Repeat(with, n-len(head)) }
	for _, head := range []string{"#schema\n", "#script\n", "#ask a\n"} {
		for _, with := range []string{"x", "\n"} {
			s := fill(head, api.MaxSource, with)
			want := strings.TrimPrefix(s, head)
			if with != "\n" {
				want += "\n"
			}
			job := map[string]api.Job{"#schema\n": {Schema: want}, "#script\n": {Script: want}, "#ask a\n": {Asks: one(api.Ask{Who: "a", Query: want})}}[head]
			parses(t, s, job)
			stops(t, s+with, 0, api.ErrMany)
			stops(t, s+"\n", 0, api.ErrMany)
			stops(t, s+strings.Repeat(with, 1<<20), 0, api.ErrMany)
		}
	}
	parses(t, strings.Repeat("\n", api.MaxSource), api.Job{})
	stops(t, strings.Repeat("\n", api.MaxSource+1), 0, api.ErrMany)
	parses(t, fill("#fuel 9\n", api.MaxSource, "\n"), api.Job{Fuel: 9})
	numbers := fill("#inputs\n", api.MaxSource, "1\n")[:api.MaxSource]
	parses(t, numbers, api.Job{Inputs: numbered((api.MaxSource-len("#inputs\n"))/2, func(int) int { return 1 })})
	// too long is told ahead of lines that can't be so
	for _, s := range []string{"x", "#", "\n\nx", "#rows t\nx\n", "#rows t\n" + strings.Repeat("1, ", api.MaxCols) + "1\n", "#fuel 01\n"} {
		stops(t, fill(s, api.MaxSource+1, "\n"), 0, api.ErrMany)
		stops(t, fill(s, api.MaxSource+1, "x"), 0, api.ErrMany)
	}
	stops(t, fill("x\n", api.MaxSource, "\n"), 1, api.ErrForm)
	stops(t, strings.Repeat("\n", api.MaxSource-1)+"x", api.MaxSource, api.ErrForm)
}
