package tool_test

import (
	"fmt"
	"slices"
	"strings"
	"testing"

	"cordon/algebra"
	"cordon/api"
	"cordon/audit"
	"cordon/engine"
	"cordon/flow"
	"cordon/interp"
	"cordon/report"
	"cordon/schema"
	"cordon/script"
	"cordon/store"
	"cordon/syntax"
)

// errWords are the words of errors, written out.
var errWords = strings.Fields("ok nil argument type overflow zero key raise many deep form name level rows fuel flow null single shape")

// secondRun is what a job comes to, layer by layer; of each table its rows are looked for among all Loads.
func secondRun(j api.Job) string {
	note := func(part, at int, err api.Errno, why int) string {
		return report.Note(j.Schema, j.Script, api.Note{Part: part, At: at, Err: err, Why: why}) + "\n"
	}
	s, at, err := syntax.Schema(j.Schema)
	if err != api.OK {
		return note(0, at, err, 0)
	}
	c, _, err := schema.New(s)
	if err != api.OK {
		return note(0, 0, err, 0)
	}
	r, at, err := syntax.Script(j.Script)
	if err != api.OK {
		return note(1, at, err, 0)
	}
	p, at, err := script.Compile(c, r)
	if err != api.OK {
		return note(1, at, err, 0)
	}
	out := ""
	diags := flow.Check(c, p).Diags
	for _, d := range diags {
		out += note(2, d.At, api.ErrFlow, d.Why)
	}
	out += map[bool]string{true: "accepted\n", false: "rejected\n"}[len(diags) == 0]
	isThere := func(l api.Load) bool {
		return slices.ContainsFunc(c.Tables(), func(r api.Relation) bool { return r.Name == l.Table })
	}
	for _, l := range j.Loads {
		if !isThere(l) {
			return out + "error name\n"
		}
	}
	d, _, wrong := store.Load(c, secondTables(c, j.Loads))
	if len(diags) == 0 {
		out += secondEnd(c, p, d, wrong, j)
	}
	for _, a := range j.Asks {
		out += "ask " + a.Who + "\n" + secondAnswer(c, d, wrong, a)
	}
	return out
}

func secondTables(c *schema.Catalog, loads []api.Load) [][][]api.Value {
	var out [][][]api.Value
	for _, r := range c.Tables() {
		var rows [][]api.Value
		for _, l := range loads {
			if l.Table == r.Name {
				rows = slices.Concat(rows, l.Rows)
			}
		}
		out = append(out, rows)
	}
	return out
}

func secondEnd(c *schema.Catalog, p api.Program, d *store.DB, wrong api.Errno, j api.Job) string {
	if wrong != api.OK {
		return "end " + errWords[wrong] + "\n"
	}
	after, told, err := interp.Run(d, p, j.Inputs, j.Fuel)
	out := ""
	for _, o := range told {
		out += c.Channels()[o.Channel].Name + " " + report.Value(o.Value) + "\n"
	}
	out += "end " + errWords[err] + "\n"
	for i, r := range c.Tables() {
		out += "table " + r.Name + "\n"
		for _, row := range after.Rows(i) {
			out += report.Row(row) + "\n"
		}
	}
	return out
}

func secondAnswer(c *schema.Catalog, d *store.DB, wrong api.Errno, a api.Ask) string {
	q, _, form := syntax.Query(a.Query)
	p, kind := algebra.Plan(c, nil, q)
	may := audit.May(c, a.Who, p)
	rows, done := engine.Rows(d, nil, p)
	for _, err := range one(form, kind, wrong, may, done) {
		if err != api.OK {
			return "error " + errWords[err] + "\n"
		}
	}
	out := ""
	for _, row := range rows {
		out += report.Row(row) + "\n"
	}
	return out
}

// holdsRun looks whether what a job comes to is what the second way says, and tells the first word of each line.
func holdsRun(t *testing.T, j api.Job) []string {
	t.Helper()
	s := toldJob(j)
	if s == "" {
		return nil
	}
	want := secondRun(j)
	does(t, s, want)
	return strings.Split(want, "\n")
}

// bentLoads puts something wrong into Loads.
func (m *maker) bentLoads(l []api.Load) []api.Load {
	odd := pick(m, row(num(1)), row(text("x"), text("y")), repeated(api.Value{}, 4), repeated(num(1), 5))
	switch {
	case m.often(30):
		return append(l, load("nosuch", odd))
	case len(l) > 0 && m.often(60):
		l = slices.Clone(l)
		of := &l[m.Intn(len(l))]
		of.Rows = slices.Concat(of.Rows, of.Rows)
		return l
	}
	return append(l, load(pick(m, m.tables...).Name, odd))
}

// P25.3, of jobs made in a loop, some of which are bent.
func TestRunMade(t *testing.T) {
	came := map[string]int{}
	for seed := range 1500 {
		m := newMaker(seed, lattices()...)
		s := m.script()
		if m.often(60) {
			s, _ = m.freed(s)
		}
		of, text, ok := m.texts(s)
		if !ok {
			continue
		}
		j := api.Job{Schema: of, Script: text, Loads: m.loads(m.store(4)), Inputs: m.inputs(), Fuel: pick(m, 5, 30, 300), Asks: m.asks(m.Intn(6))}
		bend := []func(j *api.Job){
			func(*api.Job) {}, func(*api.Job) {}, func(*api.Job) {},
			func(j *api.Job) { j.Schema = m.bent(of) },
			func(j *api.Job) { j.Script = m.bent(text) },
			func(j *api.Job) { j.Loads = m.bentLoads(j.Loads) },
			func(j *api.Job) {
				for i := range j.Asks {
					j.Asks[i].Query = m.bent(j.Asks[i].Query)
				}
			},
			func(j *api.Job) { j.Asks = append(j.Asks, api.Ask{Who: "nobody", Query: "select 1 as x\n"}) },
		}
		for range 4 {
			x := with(j, pick(m, bend...))
			for _, line := range holdsRun(t, with(x, pick(m, bend...))) {
				came[kindOfLine(line)]++
			}
		}
		if t.Failed() {
			t.Fatalf("seed %d", seed)
		}
	}
	enough(t, came, 50, "accepted", "rejected", "schema", "script", "flow", "end ok", "end raise", "end fuel", "end key", "end shape", "table", "ask", "out", "log", "err", "top_channel", "error name", "error flow", "error form")
	enough(t, came, 10, "end rows", "end null", "end zero", "end type", "error key", "error type", "error shape", "error zero", "error single")
}

// kindOfLine is what a line tells; of ends and errors how.
func kindOfLine(line string) string {
	word, rest, _ := strings.Cut(line, " ")
	if word == "end" || word == "error" {
		return fmt.Sprint(word, " ", rest)
	}
	return word
}
