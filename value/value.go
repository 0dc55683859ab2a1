// Package value is layer 1: values, and what is reckoned with them: see shared/doc/01-value.md.
package value

import (
	"cmp"
	"math"

	"cordon/api"
)

// Null is null.
func Null() api.Value { return api.Value{} }

// Bool is true or false.
func Bool(is bool) api.Value {
	v := api.Value{Type: api.TyBool}
	if is {
		v.N = 1
	}
	return v
}

// Int is a number.
func Int(n int) api.Value { return api.Value{Type: api.TyInt, N: n} }

// Text is a text.
func Text(s string) api.Value { return api.Value{Type: api.TyText, S: s} }

// Right tells whether a value may be. Null is held to what a truth value is held to, and that to what a number is: so the types fall through.
func Right(v api.Value) api.Errno {
	switch v.Type {
	case api.TyNull:
		if v.N != 0 {
			return api.ErrArg
		}
		fallthrough
	case api.TyBool:
		if v.N != 0 && v.N != 1 {
			return api.ErrArg
		}
		fallthrough
	case api.TyInt:
		if v.S != "" {
			return api.ErrArg
		}
		return api.OK
	case api.TyText:
		return rightText(v)
	}
	return api.ErrArg
}

func rightText(v api.Value) api.Errno {
	switch {
	case v.N != 0:
		return api.ErrArg
	case len(v.S) > api.MaxText:
		return api.ErrMany
	}
	return api.OK
}

// And is and.
func And(a, b api.Value) (api.Value, api.Errno) { return decide(a, b, false) }

// Or is or.
func Or(a, b api.Value) (api.Value, api.Errno) { return decide(a, b, true) }

// decide is And and Or, which differ only in which truth value wins over all others.
func decide(a, b api.Value, wins bool) (api.Value, api.Errno) {
	switch {
	case !fits(a, api.TyBool) || !fits(b, api.TyBool):
		return api.Value{}, api.ErrType
	case a == Bool(wins) || b == Bool(wins):
		return Bool(wins), api.OK
	case anyNull(a, b):
		return Null(), api.OK
	}
	return Bool(!wins), api.OK
}

// Not is not.
func Not(a api.Value) (api.Value, api.Errno) {
	switch {
	case !fits(a, api.TyBool):
		return api.Value{}, api.ErrType
	case a == Null():
		return Null(), api.OK
	}
	return Bool(a == Bool(false)), api.OK
}

// Neg is a number the other way.
func Neg(a api.Value) (api.Value, api.Errno) { return Sub(Int(0), a) }

// Add adds.
func Add(a, b api.Value) (api.Value, api.Errno) {
	return reckon(a, b, func(x, y int) (int, api.Errno) {
		sum := x + y
		if (sum < x) != (y < 0) {
			return 0, api.ErrOver
		}
		return sum, api.OK
	})
}

// Sub subtracts.
func Sub(a, b api.Value) (api.Value, api.Errno) {
	return reckon(a, b, func(x, y int) (int, api.Errno) {
		rest := x - y
		if (rest > x) != (y < 0) {
			return 0, api.ErrOver
		}
		return rest, api.OK
	})
}

// Mul multiplies.
func Mul(a, b api.Value) (api.Value, api.Errno) {
	return reckon(a, b, func(x, y int) (int, api.Errno) {
		if y == 0 {
			return 0, api.OK
		}
		product := x * y
		// The one product that wrapped round and yet divides back to x.
		lowest := x == math.MinInt && y == -1
		if lowest || product/y != x {
			return 0, api.ErrOver
		}
		return product, api.OK
	})
}

// Div divides.
func Div(a, b api.Value) (api.Value, api.Errno) {
	return reckon(a, b, func(x, y int) (int, api.Errno) {
		switch {
		case y == 0:
			return 0, api.ErrZero
		case x == math.MinInt && y == -1:
			return 0, api.ErrOver
		}
		return x / y, api.OK
	})
}

// Mod is what is left.
func Mod(a, b api.Value) (api.Value, api.Errno) {
	return reckon(a, b, func(x, y int) (int, api.Errno) {
		if y == 0 {
			return 0, api.ErrZero
		}
		return x % y, api.OK
	})
}

// reckon looks at types and nulls ahead, so that do, whatever it is, sees two numbers alone.
func reckon(a, b api.Value, do func(x, y int) (int, api.Errno)) (api.Value, api.Errno) {
	switch {
	case !fits(a, api.TyInt) || !fits(b, api.TyInt):
		return api.Value{}, api.ErrType
	case anyNull(a, b):
		return Null(), api.OK
	}
	n, err := do(a.N, b.N)
	if err != api.OK {
		return api.Value{}, err
	}
	return Int(n), api.OK
}

// Concat puts texts together.
func Concat(a, b api.Value) (api.Value, api.Errno) {
	switch {
	case !fits(a, api.TyText) || !fits(b, api.TyText):
		return api.Value{}, api.ErrType
	case anyNull(a, b):
		return Null(), api.OK
	case len(a.S)+len(b.S) > api.MaxText:
		return api.Value{}, api.ErrMany
	}
	return Text(a.S + b.S), api.OK
}

// Eq tells whether two are the same.
func Eq(a, b api.Value) (api.Value, api.Errno) {
	return compare(a, b, func() bool { return a == b })
}

// Less tells whether one is smaller.
func Less(a, b api.Value) (api.Value, api.Errno) {
	return compare(a, b, func() bool { return Order(a, b) < 0 })
}

// compare looks at nulls first, and at types only then: null stands beside every type.
func compare(a, b api.Value, holds func() bool) (api.Value, api.Errno) {
	switch {
	case anyNull(a, b):
		return Null(), api.OK
	case a.Type != b.Type:
		return api.Value{}, api.ErrType
	}
	return Bool(holds()), api.OK
}

// Order is how two values stand. N and S can be asked in turn whatever the type is, as of a right value at most one of them says something.
func Order(a, b api.Value) int {
	return cmp.Or(cmp.Compare(a.Type, b.Type), cmp.Compare(a.N, b.N), cmp.Compare(a.S, b.S))
}

// True tells whether a value is true.
func True(v api.Value) bool { return v == Bool(true) }

func fits(v api.Value, kind int) bool { return v == Null() || v.Type == kind }

func anyNull(a, b api.Value) bool { return a == Null() || b == Null() }
