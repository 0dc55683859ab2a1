package interp

import (
	"slices"

	"cordon/api"
)

// frame is the values of a procedure's variables. One that was not set yet is not in it, so that it is null.
type frame map[string]api.Value

// scope is what the statements of a procedure see, and within how many calls they stand.
type scope struct {
	vars  []api.Var
	frame frame
	calls int
}

// newScope has a frame of its own. A parameter for which nothing is given is null, as variables are.
func newScope(c api.Code, given []api.Value, calls int) scope {
	s := scope{vars: slices.Concat(c.Params, c.Vars), frame: frame{}, calls: calls}
	for i := range min(len(c.Params), len(given)) {
		s.frame[c.Params[i].Name] = given[i]
	}
	return s
}

// set gives variables those values that stand at their places.
func (s scope) set(names []string, values []api.Value) {
	for i := range min(len(names), len(values)) {
		s.frame[names[i]] = values[i]
	}
}

// bound is the frame in the order in which the procedure has its variables, as what is done with it may hang on no map's order.
func (s scope) bound() []api.Bound {
	out := make([]api.Bound, len(s.vars))
	for i, v := range s.vars {
		out[i] = api.Bound{Name: v.Name, Value: s.frame[v.Name]}
	}
	return out
}
