// Package within is what layers 17 and 21 do with polynomials that may be in an ideal.
package within

import (
	"primrose/api"
	"primrose/reduce"
)

// Basis divides each polynomial of f, in order, by the basis g, up to the first remainder
// that is not 0. It reports whether all remainders are 0, and returns the remaining fuel.
// The errors are those of layer 15.
func Basis(r api.Ring, f, g [][]api.Term, fuel int) (all bool, left int, e api.Errno) {
	for _, p := range f {
		rest, left, e := reduce.Rem(r, p, g, fuel)
		if e != api.OK || len(rest) > 0 {
			return false, left, e
		}
		fuel = left
	}
	return true, fuel, api.OK
}
