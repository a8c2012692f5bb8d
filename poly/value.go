package poly

import (
	"slices"

	"primrose/api"
	"primrose/fraction"
)

// Eval returns the value of p when each variable has the value in at (G6).
func Eval(r api.Ring, p []api.Term, at []api.Rat) (api.Rat, api.Errno) {
	p, e := Norm(r, p)
	switch {
	case e != api.OK:
		return api.Rat{}, e
	case len(at) != len(r.Names):
		return api.Rat{}, api.ErrArg
	}
	slices.SortFunc(p, func(s, t api.Term) int { return slices.Compare(t.E, s.E) })
	return value(p, at, 0), api.OK
}

// value evaluates terms that stand in the order Lex and differ in the variables
// from i on alone, as Horner does: a power is worked out only from one exponent
// to the next.
func value(p []api.Term, at []api.Rat, i int) api.Rat {
	if i == len(at) {
		return p[0].C
	}
	sum := fraction.Of(0)
	for len(p) > 0 {
		n := p[0].E[i]
		end, next := len(p), 0
		if k := slices.IndexFunc(p, func(t api.Term) bool { return t.E[i] < n }); k >= 0 {
			end, next = k, p[k].E[i]
		}
		sum = fraction.Add(sum, value(p[:end], at, i+1))
		sum = fraction.Mul(sum, powerOf(at[i], n-next))
		p = p[end:]
	}
	return sum
}

// powerOf returns x to the power of n.
func powerOf(x api.Rat, n int) api.Rat {
	switch n {
	case 0:
		return fraction.Of(1)
	case 1:
		return x
	}
	half := powerOf(x, n/2)
	square := fraction.Mul(half, half)
	if n%2 == 0 {
		return square
	}
	return fraction.Mul(square, x)
}

// Deriv returns the partial derivative of p with respect to the variable i (G7).
func Deriv(r api.Ring, p []api.Term, i int) ([]api.Term, api.Errno) {
	p, e := normIn(r, p, i)
	if e != api.OK {
		return nil, e
	}
	// What is left stays in order, as all lose the same factor.
	p = slices.DeleteFunc(p, func(t api.Term) bool { return t.E[i] == 0 })
	for k, t := range p {
		p[k].C = fraction.Mul(t.C, fraction.Of(t.E[i]))
		t.E[i]--
	}
	return p, api.OK
}
