package flow

import (
	"slices"

	"cordon/api"
	"cordon/labels"
	"cordon/lattice"
	"cordon/schema"
)

// none is the level of what is not there: nothing may flow to it.
const none = -1

// work is what is known of a program while it is checked.
type work struct {
	catalog  *schema.Catalog
	levels   *lattice.Lattice
	nulls    nulls
	tables   []table
	channels []api.Named
	saved    int // the greatest level below those of all tables' rows, and columns
	procs    []procedure
	blocks   []int       // of each loop the level at which its block raises something, in the order in which loops are come to
	vars     []api.Named // of the procedure that is looked at
	loop     int         // how many loops were come to
	endless  int         // the level of loops and calls that may not end
	diags    []api.Diag
	changed  bool
}

// table is a table's levels, which of its columns may be null, and which are its key.
type table struct {
	rows, exists int
	cols         []int
	nulls        []bool
	key          []int
}

// procedure is what is known of one.
type procedure struct {
	api.Code
	round  bool // it is called, by ways of calls, by itself
	vars   []api.Named
	entry  int
	raises raising
}

// raising is whether something can be raised, and the level of whether it is: Bottom, where it can't.
type raising struct {
	can   bool
	level int
}

func newWork(c *schema.Catalog, codes []api.Code) *work {
	w := &work{catalog: c, levels: c.Lattice(), nulls: nulls{c.Tables()}, channels: c.Channels()}
	w.endless = w.together()
	w.takeTables()
	round := callThemselves(codes)
	for i, code := range codes {
		p := procedure{Code: code, round: round[i], entry: w.together(), raises: w.nothing()}
		for _, v := range slices.Concat(code.Params, code.Vars) {
			p.vars = append(p.vars, api.Named{Name: v.Name, Level: w.together()})
		}
		w.procs = append(w.procs, p)
	}
	return w
}

func (w *work) takeTables() {
	w.saved = w.levels.Top()
	for i, r := range w.nulls.tables {
		t := table{rows: r.Rows, exists: labels.Exists(w.catalog, i), nulls: columnNulls(r), key: r.Key}
		w.saved = w.levels.Meet(w.saved, t.rows)
		for j := range r.Cols {
			level := labels.Column(w.catalog, i, j)
			t.cols = append(t.cols, level)
			w.saved = w.levels.Meet(w.saved, level)
		}
		w.tables = append(w.tables, t)
	}
}

// startOver begins to go over the program once more.
func (w *work) startOver() {
	w.loop, w.diags, w.changed = 0, nil, false
}

// procedure goes over one, and takes what it raises into what is known of it.
func (w *work) procedure(i int) {
	p := &w.procs[i]
	w.vars = p.vars
	r := w.block(p.entry, p.Body)
	if r.can && !p.raises.can {
		p.raises.can, w.changed = true, true
	}
	w.grow(&p.raises.level, r.level)
}

func (w *work) verdict() api.Verdict {
	out := api.Verdict{Diags: slices.Clone(w.diags), Loops: w.endless}
	for _, p := range w.procs {
		levels := make([]int, len(p.vars))
		for i, v := range p.vars {
			levels[i] = v.Level
		}
		out.Vars = append(out.Vars, levels)
		out.Entry = append(out.Entry, p.entry)
		out.Raise = append(out.Raise, p.raises.level)
		out.Can = append(out.Can, p.raises.can)
	}
	return out
}

// together is the least level above all of these.
func (w *work) together(levels ...int) int {
	out := w.levels.Bottom()
	for _, level := range levels {
		out = w.levels.Join(out, level)
	}
	return out
}

// grow takes levels into one that is known so far.
func (w *work) grow(known *int, levels ...int) {
	if higher := w.together(*known, w.together(levels...)); higher != *known {
		*known, w.changed = higher, true
	}
}

// flow tells of a statement that something at these levels may not flow to a level, where that is so.
func (w *work) flow(op api.Op, why, to int, levels ...int) {
	if !w.levels.Leq(w.together(levels...), to) {
		w.diags = append(w.diags, api.Diag{At: op.At, Why: why})
	}
}

func (w *work) nothing() raising { return raising{level: w.together()} }

// raises is of what raises something at these levels, if it can.
func (w *work) raises(can bool, levels ...int) raising {
	if !can {
		return w.nothing()
	}
	return raising{can: true, level: w.together(levels...)}
}

// any is of what raises all that these do.
func (w *work) any(l ...raising) raising {
	out := w.nothing()
	for _, r := range l {
		out = raising{can: out.can || r.can, level: w.together(out.level, r.level)}
	}
	return out
}

// marks are those of expressions, over columns with levels.
func (w *work) marks(cols []int, l []api.Node) []api.Mark {
	var out []api.Mark
	for _, n := range l {
		out = append(out, labels.Node(w.catalog, w.vars, cols, n))
	}
	return out
}

// all is the mark of what hangs on all of these.
func (w *work) all(marks []api.Mark) api.Mark {
	out := api.Mark{Value: w.together(), Raise: w.together()}
	for _, m := range marks {
		out = api.Mark{Value: w.together(out.Value, m.Value), Raise: w.together(out.Raise, m.Raise), Can: out.Can || m.Can}
	}
	return out
}

// sheet is that of a statement's query.
func (w *work) sheet(op api.Op) api.Sheet {
	if len(op.Plan) == 0 {
		return api.Sheet{Rows: w.together(), Raise: w.together()}
	}
	return labels.Plan(w.catalog, w.vars, op.Plan[0])
}

// give takes levels into that of a variable: the first one of its name, as that is the one that is looked up (17).
func (w *work) give(name string, levels ...int) {
	place := slices.IndexFunc(w.vars, func(v api.Named) bool { return v.Name == name })
	if place >= 0 {
		w.grow(&w.vars[place].Level, levels...)
	}
}
