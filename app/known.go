package app

import (
	"slices"

	"cordon/api"
	"cordon/schema"
)

// known is what is known of an application ahead of every run.
type known struct {
	catalog *schema.Catalog
	program api.Program
	verdict api.Verdict
}

// isFree tells whether nothing may not flow.
func (k *known) isFree() bool { return len(k.verdict.Diags) == 0 }

// notes are of all that may not flow, in order.
func (k *known) notes() []api.Note {
	var out []api.Note
	for _, d := range k.verdict.Diags {
		out = append(out, api.Note{Part: partFlow, At: d.At, Err: api.ErrFlow, Why: d.Why})
	}
	return out
}

// ownVerdict is the verdict, in lists of its own: whoever has it may change them.
func (k *known) ownVerdict() api.Verdict {
	v := k.verdict
	v.Diags = slices.Clone(v.Diags)
	v.Vars = slices.Clone(v.Vars)
	for i, levels := range v.Vars {
		v.Vars[i] = slices.Clone(levels)
	}
	v.Entry = slices.Clone(v.Entry)
	v.Raise = slices.Clone(v.Raise)
	v.Can = slices.Clone(v.Can)
	return v
}
