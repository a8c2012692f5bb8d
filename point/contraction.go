package point

import (
	"slices"

	"primrose/api"
	"primrose/extend"
	"primrose/poly"
)

// check returns the error of the arguments, but for a linear form.
func check(r api.Ring, f [][]api.Term, u []int, fuel int) api.Errno {
	for _, p := range slices.Concat([][]api.Term{nil}, f) { // f may be empty
		if _, e := poly.Norm(r, p); e != api.OK {
			return e
		}
	}
	n := len(r.Names)
	switch {
	case fuel < 0 || fuel > api.MaxFuel || !areVariables(u, n) || len(u) == n:
		return api.ErrArg
	case n == api.MaxVars:
		return api.ErrLong
	}
	return api.OK
}

// areVariables reports whether u are indices of n variables, in strictly ascending
// order.
func areVariables(u []int, n int) bool {
	before := -1
	for _, i := range u {
		if i <= before || i >= n {
			return false
		}
		before = i
	}
	return true
}

// contract returns the contraction of the ideal of f, with which each call begins, and
// the remaining fuel; or ErrWhole if it is the whole ring.
func contract(r api.Ring, f [][]api.Term, u []int, fuel int) (g [][]api.Term, left int, e api.Errno) {
	g, left, e = extend.Contract(r, f, u, fuel)
	switch {
	case e != api.OK:
		return nil, 0, e
	case len(g) > 0 && slices.Max(g[0][0].E) == 0:
		return nil, 0, api.ErrWhole
	}
	return g, left, api.OK
}
