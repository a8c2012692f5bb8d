package fraction

import (
	"primrose/api"
	"primrose/nat"
	"primrose/whole"
)

// plain is a fraction in plain form. Only with such fractions does plus know
// where to look for what a sum's numerator and denominator have in common.
type plain api.Rat

// reduce returns num divided by den, or 0 if den is 0.
func reduce(num api.Int, den []uint32) plain {
	switch {
	case isZero(den):
		return plain(Of(0))
	case isOne(den): // most numbers are integers: they need no divisor
		return plain{Num: whole.Plain(num), Den: nat.Plain(den)}
	}
	common := nat.Gcd(num.Mag, den)
	return plain{Num: part(num, common), Den: partOf(den, common)}
}

// plus returns the sum. A prime that divides both its numerator and its
// denominator divides the denominators of both x and y: it is looked for in
// their common divisor, a far shorter number than their product.
func (x plain) plus(y plain) plain {
	common := nat.Gcd(x.Den, y.Den)
	if isOne(common) {
		return plain{Num: crossSum(x.Num, y.Den, y.Num, x.Den), Den: nat.Mul(x.Den, y.Den)}
	}
	restX, restY := partOf(x.Den, common), partOf(y.Den, common)
	num := crossSum(x.Num, restY, y.Num, restX)
	gone := nat.Gcd(num.Mag, common)
	return plain{Num: part(num, gone), Den: nat.Mul(restX, partOf(y.Den, gone))}
}

// crossSum returns a times b plus c times d.
func crossSum(a api.Int, b []uint32, c api.Int, d []uint32) api.Int {
	return whole.Add(times(a, b), times(c, d))
}

// times returns a times b.
func times(a api.Int, b []uint32) api.Int {
	return whole.Mul(a, api.Int{Mag: b})
}

// part returns a divided by a divisor of it.
func part(a api.Int, divisor []uint32) api.Int {
	q, _, _ := whole.Div(a, api.Int{Mag: divisor})
	return q
}

// partOf returns a divided by a divisor of it.
func partOf(a, divisor []uint32) []uint32 {
	q, _, _ := nat.DivMod(a, divisor)
	return q
}

func isZero(a []uint32) bool {
	return nat.Bits(a) == 0
}

func isOne(a []uint32) bool {
	return nat.Bits(a) == 1
}
