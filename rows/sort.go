package rows

import (
	"slices"

	"cordon/value"
)

// Sort puts rows in order by keys.
func Sort(l []Row, keys []Row, desc []bool) []Row {
	places := make([]int, len(l))
	for i := range len(l) {
		places[i] = i
	}
	slices.SortStableFunc(places, standing(keys, desc))
	out := make([]Row, len(l))
	for i, place := range places {
		out[i] = slices.Clone(l[place])
	}
	return out
}

// standing tells how the keys at two places stand.
func standing(keys []Row, desc []bool) func(p, q int) int {
	keyAt := func(place int) Row {
		if place >= len(keys) {
			return nil
		}
		return keys[place]
	}
	return func(p, q int) int {
		a, b := keyAt(p), keyAt(q)
		for i := range max(len(a), len(b)) {
			order := orderAt(a, b, i)
			if order != 0 && i < len(desc) && desc[i] {
				return -order
			}
			if order != 0 {
				return order
			}
		}
		return 0
	}
}

// orderAt tells how the values i of two keys stand, of which one at the least has it.
func orderAt(a, b Row, i int) int {
	switch {
	case i >= len(a):
		return -1
	case i >= len(b):
		return 1
	}
	return value.Order(a[i], b[i])
}
