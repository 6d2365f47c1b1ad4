package cell

import (
	"math"

	"hindsight/api"
)

// operation is the result for two integers, or why there is none.
type operation func(x, y int64) (int64, api.Errno)

// isNumeric reports whether v is null or an integer.
func isNumeric(v api.Value) bool { return v.Kind == api.Null || v.Kind == api.Int }

// arith applies an operation to a and b, unless one of them is null or of a wrong kind.
func arith(a, b api.Value, apply operation) (api.Value, api.Errno) {
	if !Right(a) || !Right(b) {
		return null(), api.ErrForm
	}
	if !isNumeric(a) || !isNumeric(b) {
		return null(), api.ErrType
	}
	if a == null() || b == null() {
		return null(), api.OK
	}
	n, err := apply(a.Int, b.Int)
	if err != api.OK {
		return null(), err
	}
	return whole(n), api.OK
}

// Add is the sum.
func Add(a, b api.Value) (api.Value, api.Errno) { return arith(a, b, add) }

// Sub is the difference.
func Sub(a, b api.Value) (api.Value, api.Errno) { return arith(a, b, sub) }

// Mul is the product.
func Mul(a, b api.Value) (api.Value, api.Errno) { return arith(a, b, mul) }

// Div is the quotient, truncated towards 0.
func Div(a, b api.Value) (api.Value, api.Errno) { return arith(a, b, div) }

// Mod is the remainder, with the sign of a.
func Mod(a, b api.Value) (api.Value, api.Errno) { return arith(a, b, mod) }

// Neg is 0 - a.
func Neg(a api.Value) (api.Value, api.Errno) { return arith(whole(0), a, sub) }

func add(x, y int64) (int64, api.Errno) {
	if y > 0 && x > math.MaxInt64-y || y < 0 && x < math.MinInt64-y {
		return 0, api.ErrOver
	}
	return x + y, api.OK
}

func sub(x, y int64) (int64, api.Errno) {
	if y < 0 && x > math.MaxInt64+y || y > 0 && x < math.MinInt64+y {
		return 0, api.ErrOver
	}
	return x - y, api.OK
}

func mul(x, y int64) (int64, api.Errno) {
	if x == 0 || y == 0 {
		return 0, api.OK
	}
	p := x * y
	// A product that wrapped does not give back its factor, except that the smallest integer and -1 do.
	if p/y != x || x == math.MinInt64 && y == -1 {
		return 0, api.ErrOver
	}
	return p, api.OK
}

func div(x, y int64) (int64, api.Errno) {
	if y == 0 {
		return 0, api.ErrZero
	}
	if x == math.MinInt64 && y == -1 {
		return 0, api.ErrOver
	}
	return x / y, api.OK
}

func mod(x, y int64) (int64, api.Errno) {
	if y == 0 {
		return 0, api.ErrZero
	}
	// The remainder always fits, also where the quotient does not.
	return x % y, api.OK
}
