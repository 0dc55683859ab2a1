package unparse

import (
	"strings"

	"cordon/api"
)

const (
	indent  = "  "
	lineEnd = "\n"
)

// writer lays tokens one behind the other. What is too deep is not gone into, and of a text that is too long no more is kept: but how deep it is, is still looked at, since that is told ahead.
type writer struct {
	strings.Builder
	deep    int
	in      int  // in how many braces a line stands
	tight   bool // no blank stands ahead of the next token
	tooDeep bool
	tooLong bool
}

// put writes bytes as they are.
func (w *writer) put(s string) {
	if w.tooLong || w.Len()+len(s) > api.MaxSource {
		w.tooLong = true
		return
	}
	w.WriteString(s)
}

// say writes tokens, with a blank between where one stands.
func (w *writer) say(tokens ...string) {
	for _, t := range tokens {
		if !w.tight && !noneAhead(t) {
			w.put(" ")
		}
		w.put(t)
		w.tight = noneBehind(t)
	}
}

// tie leaves out the blank that would stand behind the last token.
func (w *writer) tie() { w.tight = true }

func noneAhead(token string) bool {
	switch token {
	case ",", ";", ")", ".":
		return true
	}
	return false
}

func noneBehind(token string) bool {
	switch token {
	case "(", ".", ":":
		return true
	}
	return false
}

// line writes a line of its own.
func (w *writer) line(write func()) {
	w.put(strings.Repeat(indent, w.in))
	w.tie()
	write()
	w.put(lineEnd)
}

// sayLine writes a line of tokens alone.
func (w *writer) sayLine(tokens ...string) {
	w.line(func() { w.say(tokens...) })
}

// further writes lines that stand within braces.
func (w *writer) further(write func()) {
	w.in++
	write()
	w.in--
}

// deeper writes what is one deeper when it is read.
func (w *writer) deeper(write func()) {
	if w.deep == api.MaxNest {
		w.tooDeep = true
		return
	}
	w.deep++
	write()
	w.deep--
}

func (w *writer) inBrackets(write func()) {
	w.say("(")
	write()
	w.say(")")
}

// called writes a name with what stands in the brackets right behind it.
func (w *writer) called(name string, write func()) {
	w.say(name)
	w.tie()
	w.inBrackets(write)
}

// list writes the members of a list, with commas between.
func list[T any](w *writer, l []T, write func(x T)) {
	for i, x := range l {
		if i > 0 {
			w.say(",")
		}
		write(x)
	}
}

// names writes a list of names.
func (w *writer) names(l []string) {
	list(w, l, func(name string) { w.say(name) })
}
