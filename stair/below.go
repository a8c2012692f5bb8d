package stair

import (
	"slices"

	"primrose/mono"
)

// most is the greatest number of monomials that Below returns.
const most = 1000

// below returns the monomials in n variables that no leading monomial divides, and
// true; or false if there are more than most of them.
func below(n int, leads [][]int) ([][]int, bool) {
	one := make([]int, n)
	if isDivisible(one, leads) {
		return nil, true
	}
	l := [][]int{one}
	for i := range n {
		// What is divisible stays so in all its multiples: so each monomial that is not
		// is found from the one without the variable i, which is in the list already.
		for _, e := range l {
			for e = times(e, i); !isDivisible(e, leads); e = times(e, i) {
				if len(l) == most {
					return nil, false
				}
				l = append(l, e)
			}
		}
	}
	return l, true
}

// times returns a monomial times the variable i.
func times(e []int, i int) []int {
	e = slices.Clone(e)
	e[i]++
	return e
}

// isDivisible reports whether one of the leading monomials divides a monomial.
func isDivisible(e []int, leads [][]int) bool {
	return slices.ContainsFunc(leads, func(lead []int) bool {
		_, ok := mono.Div(e, lead)
		return ok
	})
}
