package stair

import "math/bits"

// set is a set of variables, with a bit for each. That of the first variable is the
// highest one: so of several sets of the same size the greatest number is the one that
// contains the first variable that not all of them contain, and so on.
type set uint

// size returns the number of variables in s.
func (s set) size() int {
	return bits.OnesCount(uint(s))
}

// indices returns the indices of the variables in s, of n variables.
func (s set) indices(n int) []int {
	var l []int
	for i := range n {
		if s>>(n-1-i)&1 == 1 {
			l = append(l, i)
		}
	}
	return l
}

// variables returns the set of those that a monomial contains.
func variables(e []int) set {
	var s set
	for _, n := range e {
		s <<= 1
		if n > 0 {
			s |= 1
		}
	}
	return s
}

// variablesOfEach returns the sets of those that monomials contain.
func variablesOfEach(l [][]int) []set {
	sets := make([]set, len(l))
	for k, e := range l {
		sets[k] = variables(e)
	}
	return sets
}

// maximal returns the maximal independent set of n variables, and whether there is an
// independent set.
func maximal(n int, leads [][]int) (best set, ok bool) {
	contained := variablesOfEach(leads)
	for s := range set(1) << n {
		// Of several of the same size the last one is the greatest number.
		if s.isIndependent(contained) && s.size() >= best.size() {
			best, ok = s, true
		}
	}
	return best, ok
}

// isIndependent reports whether each leading monomial contains a variable that is not
// in s, given the variables that they contain.
func (s set) isIndependent(contained []set) bool {
	for _, c := range contained {
		if c&^s == 0 {
			return false
		}
	}
	return true
}

// havePowers reports whether for each of n variables one of the leading monomials is
// a power of it alone.
func havePowers(n int, leads [][]int) bool {
	var powers set
	for _, c := range variablesOfEach(leads) {
		switch c.size() {
		case 0: // 1 is a power of each variable
			return true
		case 1:
			powers |= c
		}
	}
	return powers.size() == n
}
