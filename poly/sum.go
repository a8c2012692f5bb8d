package poly

import (
	"primrose/api"
	"primrose/fraction"
)

// Add returns the sum (G2).
func Add(r api.Ring, p, q []api.Term) ([]api.Term, api.Errno) {
	if e := check(r, p, q); e != api.OK {
		return nil, e
	}
	return gather(r, append(copied(p), copied(q)...)), api.OK
}

// Sub returns the difference p - q (G2).
func Sub(r api.Ring, p, q []api.Term) ([]api.Term, api.Errno) {
	if e := check(r, p, q); e != api.OK {
		return nil, e
	}
	return gather(r, append(copied(p), scaled(copied(q), fraction.Of(-1))...)), api.OK
}

// Scale returns p times c (G4).
func Scale(r api.Ring, p []api.Term, c api.Rat) ([]api.Term, api.Errno) {
	p, e := Norm(r, p)
	if e != api.OK || fraction.Sign(c) == 0 {
		return nil, e
	}
	return scaled(p, c), api.OK
}

// Monic returns p divided by the coefficient of its leading term, or 0 for 0
// (G4).
func Monic(r api.Ring, p []api.Term) ([]api.Term, api.Errno) {
	p, e := Norm(r, p)
	if e != api.OK || len(p) == 0 {
		return nil, e
	}
	inverse, _ := fraction.Div(fraction.Of(1), p[0].C)
	return scaled(p, inverse), api.OK
}

// scaled multiplies terms by c, in their own memory.
func scaled(l []api.Term, c api.Rat) []api.Term {
	for k := range l {
		l[k].C = fraction.Mul(l[k].C, c)
	}
	return l
}
