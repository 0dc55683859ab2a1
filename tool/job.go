package tool

import (
	"slices"
	"strconv"
	"strings"

	"cordon/api"
	"cordon/report"
)

// What begins sections.
const (
	mark       = "#"
	headSchema = mark + "schema"
	headScript = mark + "script"
	headRows   = mark + "rows"
	headInputs = mark + "inputs"
	headFuel   = mark + "fuel"
	headAsk    = mark + "ask"
)

const (
	blank   = " "
	lineEnd = "\n"
	most    = 999999999 // the greatest number of nine digits
)

// isName tells whether a text is a NAME. It is looked at letter by letter, and counted in bytes: all letters that may be in it have one.
func isName(s string) bool {
	isOther := func(c rune) bool {
		isLetter := c >= 'a' && c <= 'z' || c >= 'A' && c <= 'Z'
		isDigit := c >= '0' && c <= '9'
		return !isLetter && !isDigit && c != '_'
	}
	return s != "" && len(s) <= api.MaxName && !strings.ContainsFunc(s, isOther)
}

func isFuel(n int) bool { return n >= 0 && n <= most }

func isInput(n int) bool { return n >= -most && n <= most }

// number is what a text says, if that is a number that may be. It is written again, as all numbers have other texts, too.
func number(s string, may func(n int) bool) (int, bool) {
	n, err := strconv.Atoi(s)
	return n, err == nil && may(n) && strconv.Itoa(n) == s
}

// isText tells whether a text is lines of a section.
func isText(s string) bool {
	return s == "" || strings.HasSuffix(s, lineEnd) && !strings.Contains(lineEnd+s, lineEnd+mark)
}

// isRow tells whether a row has values, all of them right, and not too many: just such ones are read of their text.
func isRow(row []api.Value) bool {
	back, err := report.Read(report.Row(row))
	return len(row) > 0 && err == api.OK && slices.Equal(back, row)
}

func isLoad(l api.Load) bool { return isName(l.Table) && all(l.Rows, isRow) }

func isAsk(a api.Ask) bool { return isName(a.Who) && isText(a.Query) }

// isJob tells whether a job can be told, however long its text is.
func isJob(j api.Job) bool {
	return isText(j.Schema) && isText(j.Script) && all(j.Loads, isLoad) &&
		all(j.Inputs, isInput) && isFuel(j.Fuel) && all(j.Asks, isAsk)
}

func all[T any](l []T, is func(x T) bool) bool {
	return !slices.ContainsFunc(l, func(x T) bool { return !is(x) })
}

// written is the text of a job that can be told.
func written(j api.Job) string {
	var out strings.Builder
	section := func(head, lines string) { out.WriteString(head + lineEnd + lines) }
	section(headSchema, j.Schema)
	section(headScript, j.Script)
	for _, l := range j.Loads {
		section(headRows+blank+l.Table, report.Rows(l.Rows))
	}
	if len(j.Inputs) > 0 {
		section(headInputs, inputLines(j.Inputs))
	}
	section(headFuel+blank+strconv.Itoa(j.Fuel), "")
	for _, a := range j.Asks {
		section(headAsk+blank+a.Who, a.Query)
	}
	return out.String()
}

func inputLines(inputs []int) string {
	var out strings.Builder
	for _, n := range inputs {
		out.WriteString(strconv.Itoa(n) + lineEnd)
	}
	return out.String()
}
