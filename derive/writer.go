package derive

import (
	"cordon/api"
	"cordon/schema"
)

// writer writes rules. It goes the verifier's way, and each rule takes what a verifier asks it to claim, so that the least rules come of it of which all is so.
type writer struct {
	*verifier
	changed bool
}

func newWriter(c *schema.Catalog, codes []api.Code, known api.Verdict) *writer {
	x := api.Proof{Vars: known.Vars, Entry: known.Entry, Raise: known.Raise, Can: known.Can}
	w := &writer{verifier: newVerifier(c, codes, x)}
	for _, code := range codes {
		w.proof.Procs = append(w.proof.Procs, w.blank(code.Body))
	}
	w.stands = func(r *api.Rule, levels ...int) { w.grow(&r.Pc, levels...) }
	w.raises = func(r *api.Rule, levels ...int) {
		w.changed = w.changed || !r.Can
		r.Can = true
		w.grow(&r.Raise, levels...)
	}
	return w
}

// blank are rules that claim nothing yet.
func (w *writer) blank(body []api.Op) []api.Rule {
	out := make([]api.Rule, len(body))
	for i, op := range body {
		out[i] = api.Rule{Pc: w.together(), Raise: w.together(), Body: w.blank(op.Body), Else: w.blank(op.Else)}
	}
	return out
}

// write goes over all statements again till nothing changes, as the block of a loop stands at the level at which it raises something itself. What is claimed only grows, so it ends; what a block raises is known behind the first time, so that is soon.
func (w *writer) write() api.Proof {
	for w.changed = true; w.changed; {
		w.changed = false
		w.procedures()
	}
	return w.proof
}

// grow takes levels into one that is claimed so far.
func (w *writer) grow(claimed *int, levels ...int) {
	if higher := w.together(*claimed, w.together(levels...)); higher != *claimed {
		*claimed, w.changed = higher, true
	}
}
