package unparse

import (
	"strconv"

	"cordon/api"
)

func (w *writer) schema(x api.Schema) {
	if len(x.Levels) > 0 {
		w.line(func() {
			w.say("levels")
			w.names(x.Levels)
			w.say(";")
		})
	}
	for _, e := range x.Edges {
		w.sayLine("order", e.Low, "<", e.High, ";")
	}
	for _, t := range x.Tables {
		w.line(func() { w.relation(t) })
	}
	for _, c := range x.Channels {
		w.sayLine("channel", c.Low, c.High, ";")
	}
	for _, p := range x.Principals {
		w.sayLine("principal", p.Low, p.High, ";")
	}
	if x.Limit != 0 {
		w.sayLine("limit", strconv.Itoa(x.Limit), ";")
	}
}

func (w *writer) relation(x api.Table) {
	w.say("table", x.Name, "rows", x.Rows)
	w.inBrackets(func() { list(w, x.Cols, w.col) })
	if len(x.Key) > 0 {
		w.say("key")
		w.inBrackets(func() { w.names(x.Key) })
	}
	w.behind(x.When, "hide", x.Hide, "when")
	w.say(";")
}

func (w *writer) col(x api.Col) {
	w.say(x.Name, typeWord(x.Type))
	if x.Null {
		w.say("null")
	}
	w.say(x.Level)
}
