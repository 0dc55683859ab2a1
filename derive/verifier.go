package derive

import (
	"slices"

	"cordon/api"
	"cordon/labels"
	"cordon/lattice"
	"cordon/schema"
)

// none is the level of what is not there: nothing stands below it.
const none = -1

// claim looks at levels that a rule must have in what it claims of its statement.
type claim func(r *api.Rule, levels ...int)

// verifier goes over a program and a proof of it. What rules claim is looked at by functions in fields, so that a writer of rules goes the same way, and just puts there what a verifier asks for.
type verifier struct {
	catalog  *schema.Catalog
	levels   *lattice.Lattice
	tables   []table
	channels []api.Named
	codes    []api.Code
	proof    api.Proof
	vars     []api.Named // of the procedure that is looked at
	stands   claim       // where a statement stands
	raises   claim       // at which levels it raises something, as it can
	holds    bool        // all that was looked at is so
}

// table is a table's levels, which of its columns may be null, and which are its key.
type table struct {
	rows, exists int
	cols         []int
	nulls        []bool
	key          []int
}

// raising is whether something can be raised, and the level of whether it is: Bottom, where it can't.
type raising struct {
	can   bool
	level int
}

func newVerifier(c *schema.Catalog, codes []api.Code, x api.Proof) *verifier {
	v := &verifier{catalog: c, levels: c.Lattice(), channels: c.Channels(), codes: codes, proof: x, holds: true}
	for i, r := range c.Tables() {
		all := labels.Plan(c, nil, api.Plan{Kind: api.PlScan, N: i}) // one call for the level at which it exists, and for those of its columns
		t := table{rows: r.Rows, exists: all.Rows, cols: all.Cols, key: r.Key}
		for _, f := range r.Cols {
			t.nulls = append(t.nulls, f.Null)
		}
		v.tables = append(v.tables, t)
	}
	v.stands = func(r *api.Rule, levels ...int) { v.below(r.Pc, levels...) }
	v.raises = func(r *api.Rule, levels ...int) {
		v.holds = v.holds && r.Can
		v.below(r.Raise, levels...)
	}
	return v
}

// procedures looks at each one, where it is called, and at what it raises.
func (v *verifier) procedures() {
	for i, code := range v.codes {
		v.vars = nil
		for j, x := range slices.Concat(code.Params, code.Vars) {
			v.vars = append(v.vars, api.Named{Name: x.Name, Level: v.proof.Vars[i][j]})
		}
		v.statements(v.proof.Entry[i], code.Body, v.proof.Procs[i])
		if out := v.raised(v.proof.Procs[i]); out.can {
			v.holds = v.holds && v.proof.Can[i]
			v.below(v.proof.Raise[i], out.level)
		}
	}
}

// statements looks at those of a block that holds at a level.
func (v *verifier) statements(level int, body []api.Op, rules []api.Rule) {
	for i, op := range body {
		r := &rules[i]
		v.stands(r, level)
		if out := v.statement(op, *r); out.can {
			v.raises(r, r.Pc, out.level)
		}
		if r.Can {
			level = v.together(level, r.Raise)
		}
	}
}

// raised is what a block raises: what its rules say of that.
func (v *verifier) raised(rules []api.Rule) raising {
	out := v.nothing()
	for _, r := range rules {
		out = v.any(out, v.some(r.Can, r.Raise))
	}
	return out
}

// together is the least level above all of these.
func (v *verifier) together(levels ...int) int {
	out := v.levels.Bottom()
	for _, level := range levels {
		out = v.levels.Join(out, level)
	}
	return out
}

// below looks whether all of some levels stand below another one.
func (v *verifier) below(to int, levels ...int) {
	v.holds = v.holds && v.levels.Leq(v.together(levels...), to)
}

func (v *verifier) nothing() raising { return raising{level: v.together()} }

// some is of what raises something at these levels, if it can.
func (v *verifier) some(can bool, levels ...int) raising {
	if !can {
		return v.nothing()
	}
	return raising{can: true, level: v.together(levels...)}
}

// any is of what raises all that these do.
func (v *verifier) any(l ...raising) raising {
	out := v.nothing()
	for _, r := range l {
		out = raising{can: out.can || r.can, level: v.together(out.level, r.level)}
	}
	return out
}

// at is a member of a list, or, where there is none, another thing.
func at[T any](l []T, place int, other T) T {
	if place < 0 || place >= len(l) {
		return other
	}
	return l[place]
}
