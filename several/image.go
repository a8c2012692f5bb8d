package several

import (
	"primrose/api"
	"primrose/factor"
	"primrose/whole"
)

// The limits of N3.
const (
	maxLength  = 256 // the side to the power of the number of variables
	maxFactors = 12  // of the image
)

// modulus is a prime. The residues of coefficients modulo it stand for them where
// a quick look will do.
const modulus = 1<<31 - 1

// part is a factor of an image.
type part struct {
	f        []api.Int
	residues []int
	number   int // which of the different factors it is
}

// sideOf returns the side of a plain polynomial.
func sideOf(p []api.Term) int {
	side := 1
	for _, t := range p {
		for _, n := range t.E {
			side = max(side, n+1)
		}
	}
	return side
}

// lengthOf returns the side to the power of the number of variables, or a number
// beyond maxLength if it is greater than that.
func lengthOf(side, variables int) int {
	length := 1
	for range variables {
		length = min(length*side, maxLength+1)
	}
	return length
}

// imageOf returns the image of a primitive polynomial.
func imageOf(p []api.Term, side, length int) []api.Int {
	f := make([]api.Int, length)
	for _, t := range p {
		place := 0
		for i := len(t.E) - 1; i >= 0; i-- {
			place = place*side + t.E[i]
		}
		f[place] = t.C.Num
	}
	return f
}

// monomialAt returns the monomial whose image is t to the power of place.
func monomialAt(place, side int) monomial {
	var e monomial
	for i := range e {
		e[i] = place % side
		place /= side
	}
	return e
}

// partsOf returns the irreducible factors of an image, each as often as it is one,
// and true, if they can be found and are not too many.
func partsOf(image []api.Int) ([]part, bool) {
	_, factors, e := factor.Factor(image)
	if e != api.OK {
		return nil, false
	}
	var parts []part
	for number, x := range factors {
		if len(parts)+x.N > maxFactors {
			return nil, false
		}
		for range x.N {
			parts = append(parts, part{x.P, residues(x.P), number})
		}
	}
	return parts, true
}

func residues(f []api.Int) []int {
	l := make([]int, len(f))
	for i, c := range f {
		_, residue, _ := whole.Div(c, whole.Of(modulus))
		l[i], _ = whole.Small(residue)
	}
	return l
}

// product multiplies two polynomials in one variable.
func product(f, g []api.Int) []api.Int {
	l := make([]api.Int, len(f)+len(g)-1)
	for i, a := range f {
		for k, b := range g {
			l[i+k] = whole.Add(l[i+k], whole.Mul(a, b))
		}
	}
	return l
}

// productOfResidues multiplies two polynomials in one variable modulo the modulus.
func productOfResidues(f, g []int) []int {
	l := make([]int, len(f)+len(g)-1)
	for i, a := range f {
		if a == 0 { // images have many of these
			continue
		}
		for k, b := range g {
			l[i+k] = (l[i+k] + a*b) % modulus
		}
	}
	return l
}
