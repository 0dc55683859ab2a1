package algebra_test

import (
	"cmp"
	"reflect"
	"slices"
)

// same tells whether two values are, lists that are nil and empty taken as the same.
func same[T any](a, b T) bool { return sameValues(reflect.ValueOf(a), reflect.ValueOf(b)) }

func sameValues(a, b reflect.Value) bool {
	switch a.Kind() {
	case reflect.Slice:
		if a.Len() != b.Len() {
			return false
		}
		for i := range a.Len() {
			if !sameValues(a.Index(i), b.Index(i)) {
				return false
			}
		}
		return true
	case reflect.Struct:
		for i := range a.NumField() {
			if !sameValues(a.Field(i), b.Field(i)) {
				return false
			}
		}
		return true
	}
	return a.Equal(b)
}

// emptied is a copy with empty lists, which have room, in place of nil.
func emptied[T any](x T) T {
	x = copied(x)
	empty(reflect.ValueOf(&x).Elem())
	return x
}

func empty(v reflect.Value) {
	switch v.Kind() {
	case reflect.Slice:
		if v.Len() == 0 {
			v.Set(reflect.MakeSlice(v.Type(), 0, 3))
		}
		for i := range v.Len() {
			empty(v.Index(i))
		}
	case reflect.Struct:
		for i := range v.NumField() {
			empty(v.Field(i))
		}
	}
}

// piece is the memory of a list, with the room behind it.
type piece struct{ from, to uintptr }

// pieces are those of all lists in a value.
func pieces(v reflect.Value) []piece {
	var out []piece
	switch v.Kind() {
	case reflect.Slice:
		if v.Cap() > 0 {
			out = append(out, piece{v.Pointer(), v.Pointer() + uintptr(v.Cap())*v.Type().Elem().Size()})
		}
		for i := range v.Len() {
			out = append(out, pieces(v.Index(i))...)
		}
	case reflect.Struct:
		for i := range v.NumField() {
			out = append(out, pieces(v.Field(i))...)
		}
	}
	return out
}

// ownMemory tells whether no list in an answer shares memory with another one in it, or with one in what was handed in.
func ownMemory(answer any, handed ...any) bool {
	own := pieces(reflect.ValueOf(answer))
	slices.SortFunc(own, func(a, b piece) int { return cmp.Compare(a.from, b.from) })
	for i := range own {
		if i > 0 && own[i-1].to > own[i].from {
			return false
		}
	}
	for _, x := range handed {
		for _, p := range pieces(reflect.ValueOf(x)) {
			at, _ := slices.BinarySearchFunc(own, p, func(a, b piece) int { return cmp.Compare(a.to, b.from+1) })
			if at < len(own) && own[at].from < p.to {
				return false
			}
		}
	}
	return true
}
