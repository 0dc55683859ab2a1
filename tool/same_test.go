package tool_test

import (
	"cmp"
	"reflect"
	"slices"
)

// same tells whether two values are, lists that are nil and empty taken as the same.
func same[T any](a, b T) bool { return sameValues(reflect.ValueOf(a), reflect.ValueOf(b)) }

func sameValues(a, b reflect.Value) bool {
	switch a.Kind() {
	case reflect.Slice:
		if a.Len() != b.Len() {
			return false
		}
		for i := range a.Len() {
			if !sameValues(a.Index(i), b.Index(i)) {
				return false
			}
		}
		return true
	case reflect.Struct:
		for i := range a.NumField() {
			if !sameValues(a.Field(i), b.Field(i)) {
				return false
			}
		}
		return true
	}
	return a.Equal(b)
}

// copied is a copy that shares nothing with what it is of.
func copied[T any](x T) T { return copyOf(reflect.ValueOf(x)).Interface().(T) }

func copyOf(v reflect.Value) reflect.Value {
	out := reflect.New(v.Type()).Elem()
	out.Set(v)
	switch v.Kind() {
	case reflect.Slice:
		if !v.IsNil() {
			out.Set(reflect.MakeSlice(v.Type(), v.Len(), v.Len()))
		}
		for i := range v.Len() {
			out.Index(i).Set(copyOf(v.Index(i)))
		}
	case reflect.Struct:
		for i := range v.NumField() {
			out.Field(i).Set(copyOf(v.Field(i)))
		}
	}
	return out
}

// walked visits each part of a value that can be set, from without.
func walked(v reflect.Value, visit func(v reflect.Value)) {
	visit(v)
	switch v.Kind() {
	case reflect.Slice:
		for i := range v.Len() {
			walked(v.Index(i), visit)
		}
	case reflect.Struct:
		for i := range v.NumField() {
			walked(v.Field(i), visit)
		}
	}
}

// emptied is a copy with empty lists, which have room, in place of those without members.
func emptied[T any](x T) T {
	x = copied(x)
	walked(reflect.ValueOf(&x).Elem(), func(v reflect.Value) {
		if v.Kind() == reflect.Slice && v.Len() == 0 {
			v.Set(reflect.MakeSlice(v.Type(), 0, 3))
		}
	})
	return x
}

// roomy is a copy with more room behind each list, so that what is put there would be seen.
func roomy[T any](x T) T {
	x = copied(x)
	walked(reflect.ValueOf(&x).Elem(), func(v reflect.Value) {
		if v.Kind() == reflect.Slice {
			l := reflect.MakeSlice(v.Type(), v.Len(), v.Len()+3)
			reflect.Copy(l, v)
			v.Set(l)
		}
	})
	return x
}

// hasRoom tells whether nothing stands in the room behind the lists in a value.
func hasRoom(x any) bool {
	free := true
	walked(reflect.ValueOf(x), func(v reflect.Value) {
		if v.Kind() == reflect.Slice {
			for i := v.Len(); i < v.Cap(); i++ {
				free = free && v.Slice(0, v.Cap()).Index(i).IsZero()
			}
		}
	})
	return free
}

// spoil changes all numbers and texts in a value where they stand.
func spoil[T any](x *T) {
	walked(reflect.ValueOf(x).Elem(), func(v reflect.Value) {
		switch v.Kind() {
		case reflect.Int:
			v.SetInt(v.Int() + 99)
		case reflect.String:
			v.SetString(v.String() + " spoilt")
		}
	})
}

// piece is the memory of a list, with the room behind it.
type piece struct{ from, to uintptr }

// pieces are those of all lists in a value.
func pieces(x any) []piece {
	var out []piece
	walked(reflect.ValueOf(x), func(v reflect.Value) {
		if v.Kind() == reflect.Slice && v.Cap() > 0 {
			out = append(out, piece{v.Pointer(), v.Pointer() + uintptr(v.Cap())*v.Type().Elem().Size()})
		}
	})
	return out
}

// ownMemory tells whether no list in an answer shares memory with another one in it, or with one in what was handed in.
func ownMemory(answer any, handed ...any) bool {
	own := pieces(answer)
	slices.SortFunc(own, func(a, b piece) int { return cmp.Compare(a.from, b.from) })
	for i := range own {
		if i > 0 && own[i-1].to > own[i].from {
			return false
		}
	}
	for _, x := range handed {
		for _, p := range pieces(x) {
			at, _ := slices.BinarySearchFunc(own, p, func(a, b piece) int { return cmp.Compare(a.to, b.from+1) })
			if at < len(own) && own[at].from < p.to {
				return false
			}
		}
	}
	return true
}
