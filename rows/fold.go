package rows

import (
	"cordon/api"
	"cordon/value"
)

// Fold gathers values. The greatest is the smallest the other way round: so max falls through to min.
func Fold(fn string, l []api.Value) (api.Value, api.Errno) {
	some := withoutNulls(l)
	way := 1
	switch fn {
	case "count":
		return value.Int(len(some)), api.OK
	case "sum":
		return sum(some)
	case "max":
		way = -1
		fallthrough
	case "min":
		return first(some, func(a, b api.Value) bool { return way*value.Order(a, b) < 0 }), api.OK
	}
	return value.Null(), api.ErrArg
}

func withoutNulls(l []api.Value) []api.Value {
	var out []api.Value
	for _, v := range l {
		if v != value.Null() {
			out = append(out, v)
		}
	}
	return out
}

// sum begins with 0, so that also a first value that is no number is refused.
func sum(l []api.Value) (api.Value, api.Errno) {
	if len(l) == 0 {
		return value.Null(), api.OK
	}
	out := value.Int(0)
	for _, v := range l {
		next, err := value.Add(out, v)
		if err != api.OK {
			return value.Null(), err
		}
		out = next
	}
	return out, api.OK
}

// first is the value that stands ahead of all others, or null.
func first(l []api.Value, ahead func(a, b api.Value) bool) api.Value {
	if len(l) == 0 {
		return value.Null()
	}
	out := l[0]
	for _, v := range l[1:] {
		if ahead(v, out) {
			out = v
		}
	}
	return out
}
