package tool

import (
	"strings"

	"cordon/api"
	"cordon/report"
)

// reader reads a job's lines, one behind the other, into the job that it embeds.
type reader struct {
	api.Job
	rest string
	at   int // the line that was read last, from 1 on
}

// read reads all sections. What stands ahead of the first one is taken as one without a head.
func (r *reader) read() api.Errno {
	err := r.section("")
	for err == api.OK && r.rest != "" {
		err = r.section(r.line())
	}
	return err
}

// line is the next line, without its end.
func (r *reader) line() string {
	line, rest, _ := strings.Cut(r.rest, lineEnd)
	r.rest = rest
	r.at++
	return line
}

// goesOn tells whether the next line is one of the same section.
func (r *reader) goesOn() bool { return r.rest != "" && !strings.HasPrefix(r.rest, mark) }

// section reads the lines of a section whose head was read. A head that can't be ends it at once, so that its own line is told.
func (r *reader) section(head string) api.Errno {
	word, what, _ := strings.Cut(head, blank)
	fuel, isNumber := number(what, isFuel)
	switch {
	case head == headSchema:
		r.Schema = r.text()
	case head == headScript:
		r.Script = r.text()
	case word == headAsk && isName(what):
		r.Asks = append(r.Asks, api.Ask{Who: what, Query: r.text()})
	case word == headRows && isName(what):
		return r.rows(what)
	case head == headInputs:
		return r.inputs()
	case word == headFuel && isNumber:
		r.Fuel = fuel
		fallthrough
	case head == "":
		return r.nothing()
	default:
		return api.ErrForm
	}
	return api.OK
}

// text is all lines of the section.
func (r *reader) text() string {
	var out strings.Builder
	for r.goesOn() {
		out.WriteString(r.line() + lineEnd)
	}
	return out.String()
}

func (r *reader) rows(table string) api.Errno {
	load := api.Load{Table: table}
	for r.goesOn() {
		row, err := report.Read(r.line())
		if err != api.OK {
			return err
		}
		load.Rows = append(load.Rows, row)
	}
	r.Loads = append(r.Loads, load)
	return api.OK
}

func (r *reader) inputs() api.Errno {
	for r.goesOn() {
		n, ok := number(r.line(), isInput)
		if !ok {
			return api.ErrForm
		}
		r.Inputs = append(r.Inputs, n)
	}
	return api.OK
}

// nothing reads lines that must be empty.
func (r *reader) nothing() api.Errno {
	for r.goesOn() {
		if r.line() != "" {
			return api.ErrForm
		}
	}
	return api.OK
}
