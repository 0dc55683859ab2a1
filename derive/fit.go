package derive

import "cordon/api"

// fits tells whether a proof has all that a program asks for, and no more, and all of it are levels. What a proof has deeper than the program is not gone into.
func (v *verifier) fits() bool {
	x, n := v.proof, len(v.codes)
	if len(x.Vars) != n || len(x.Entry) != n || len(x.Raise) != n || len(x.Can) != n || len(x.Procs) != n {
		return false
	}
	if !v.areLevels(x.Entry...) || !v.areLevels(x.Raise...) {
		return false
	}
	for i, code := range v.codes {
		if len(x.Vars[i]) != len(code.Params)+len(code.Vars) || !v.areLevels(x.Vars[i]...) || !v.fit(code.Body, x.Procs[i]) {
			return false
		}
	}
	return true
}

// fit tells the same of rules, for the statements of a block.
func (v *verifier) fit(body []api.Op, rules []api.Rule) bool {
	if len(rules) != len(body) {
		return false
	}
	for i, op := range body {
		r := rules[i]
		if !v.areLevels(r.Pc, r.Raise) || !v.fit(op.Body, r.Body) || !v.fit(op.Else, r.Else) {
			return false
		}
	}
	return true
}

func (v *verifier) areLevels(levels ...int) bool {
	for _, level := range levels {
		if !v.levels.Leq(level, level) {
			return false
		}
	}
	return true
}
