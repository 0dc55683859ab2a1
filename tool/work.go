package tool

import (
	"strings"

	"cordon/algebra"
	"cordon/api"
	"cordon/app"
	"cordon/audit"
	"cordon/report"
	"cordon/store"
	"cordon/syntax"
)

// work is a job that is done: its application, its rows table by table, and what is told of it.
type work struct {
	api.Job
	*app.App
	tables [][][]api.Value
	out    strings.Builder
}

func (w *work) do() {
	a, notes := app.New(w.Schema, w.Script)
	for _, n := range notes {
		w.line(report.Note(w.Schema, w.Script, n))
	}
	if a == nil {
		return
	}
	w.App = a
	if a.Accepted() {
		w.line("accepted")
	} else {
		w.line("rejected")
	}
	if err := w.gather(); err != api.OK {
		w.fail(err)
		return
	}
	if a.Accepted() {
		w.run()
	}
	w.answer()
}

func (w *work) line(s string) { w.out.WriteString(s + lineEnd) }

func (w *work) fail(err api.Errno) { w.line("error " + report.Why(err)) }

// gather lays the rows of all Loads at the places of their tables.
func (w *work) gather() api.Errno {
	c := w.Catalog()
	w.tables = make([][][]api.Value, len(c.Tables()))
	for _, l := range w.Loads {
		t, ok := c.Table(l.Table)
		if !ok {
			return api.ErrName
		}
		w.tables[t] = append(w.tables[t], l.Rows...)
	}
	return api.OK
}

// run runs the application. Where that comes to no tables there is no catalog of them, so that none are told.
func (w *work) run() {
	d, told, err := w.Run(w.tables, w.Inputs, w.Fuel)
	w.out.WriteString(report.Outs(w.Catalog().Channels(), told))
	w.line("end " + report.Why(err))
	for t, r := range d.Catalog().Tables() {
		w.line("table " + r.Name)
		w.out.WriteString(report.Rows(d.Rows(t)))
	}
}

// answer answers all Asks on the rows of the Loads: what a run did to them is not seen there.
func (w *work) answer() {
	d, _, loaded := store.Load(w.Catalog(), w.tables)
	for _, a := range w.Asks {
		w.line("ask " + a.Who)
		rows, err := w.ask(a, d, loaded)
		if err != api.OK {
			w.fail(err)
			continue
		}
		w.out.WriteString(report.Rows(rows))
	}
}

// ask is what a principal is answered. What is wrong with the query is told ahead of what is wrong with the rows.
func (w *work) ask(a api.Ask, d *store.DB, loaded api.Errno) ([][]api.Value, api.Errno) {
	q, _, err := syntax.Query(a.Query)
	if err != api.OK {
		return nil, err
	}
	p, err := algebra.Plan(w.Catalog(), nil, q)
	switch {
	case err != api.OK:
		return nil, err
	case loaded != api.OK:
		return nil, loaded
	}
	return audit.Ask(d, a.Who, p)
}
