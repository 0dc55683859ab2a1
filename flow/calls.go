package flow

import "cordon/api"

// places are procedures, as a set.
type places map[int]struct{}

// callThemselves tells of each procedure whether it is called, by ways of calls, by itself.
func callThemselves(codes []api.Code) []bool {
	calls := make([]places, len(codes))
	for i, code := range codes {
		calls[i] = places{}
		calls[i].take(code.Body)
	}
	out := make([]bool, len(codes))
	for i := range codes {
		_, out[i] = reached(calls, i)[i]
	}
	return out
}

// take adds what is called in a block.
func (p places) take(body []api.Op) {
	for _, op := range body {
		if op.Kind == api.StCall {
			p[op.N] = struct{}{}
		}
		p.take(op.Body)
		p.take(op.Else)
	}
}

// reached are the procedures that one calls, by ways of calls. Each is gone on from once, so it ends.
func reached(calls []places, from int) places {
	out, front := places{}, calls[from]
again:
	next := places{}
	for i := range front {
		if _, known := out[i]; known {
			continue
		}
		out[i] = struct{}{}
		for callee := range at(calls, i, nil) {
			next[callee] = struct{}{}
		}
	}
	if len(next) > 0 {
		front = next
		goto again
	}
	return out
}
