package whole

import (
	"primrose/api"
	"primrose/nat"
)

// Neg returns the negative of a (B4).
func Neg(a api.Int) api.Int {
	return signed(!a.Neg, nat.Plain(a.Mag))
}

// Add returns the sum (B4).
func Add(a, b api.Int) api.Int {
	switch {
	case a.Neg == b.Neg:
		return signed(a.Neg, nat.Add(a.Mag, b.Mag))
	case nat.Cmp(a.Mag, b.Mag) < 0:
		a, b = b, a // only the lesser magnitude can be taken from the greater
		fallthrough
	default:
		difference, _ := nat.Sub(a.Mag, b.Mag)
		return signed(a.Neg, difference)
	}
}

// Sub returns the difference a - b (B4).
func Sub(a, b api.Int) api.Int {
	b.Neg = !b.Neg
	return Add(a, b)
}

// Mul returns the product (B4).
func Mul(a, b api.Int) api.Int {
	return signed(a.Neg != b.Neg, nat.Mul(a.Mag, b.Mag))
}

// Div returns q and r with a = q*b + r, r from 0 to the absolute value of b
// minus 1, and true; or 0, 0 and false if b is 0 (B5).
func Div(a, b api.Int) (q, r api.Int, ok bool) {
	quotient, rest, ok := nat.DivMod(a.Mag, b.Mag)
	if !ok {
		return api.Int{}, api.Int{}, false
	}
	if a.Neg && !isZero(rest) {
		// The remainder would be -rest: one more divisor lifts it above 0.
		quotient = nat.Add(quotient, nat.Of(1))
		rest, _ = nat.Sub(b.Mag, rest)
	}
	return signed(a.Neg != b.Neg, quotient), signed(false, rest), true
}

// Gcd returns the greatest common divisor, which is not negative; for 0 and 0
// it returns 0 (B6).
func Gcd(a, b api.Int) api.Int {
	return signed(false, nat.Gcd(a.Mag, b.Mag))
}
