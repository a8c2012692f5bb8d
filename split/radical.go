package split

import "primrose/modular"

// radical returns the product of the monic irreducible polynomials that divide f,
// which is monic, each once.
func radical(f []int, p int) []int {
	if len(f) == 1 {
		return f
	}
	common := modular.Gcd(f, modular.Deriv(f, p), p)
	once := quotient(f, common, p)
	for shared := once; len(shared) > 1; {
		// Squares make great multiplicities end soon.
		shared = modular.Gcd(common, modular.Mul(shared, shared, p), p)
		common = quotient(common, shared, p)
	}
	// A factor whose multiplicity p divides is in common as often as in f, and not
	// in once: now there are no others in common.
	return modular.Mul(once, radical(root(common, p), p), p)
}

// root returns the polynomial whose p-th power is f: that power has the
// coefficients themselves, at multiples of p.
func root(f []int, p int) []int {
	var l []int
	for i := 0; i < len(f); i += p {
		l = append(l, f[i])
	}
	return l
}

// quotient returns f divided by g, which is monic.
func quotient(f, g []int, p int) []int {
	q, _, _ := modular.DivMod(f, g, p)
	return q
}

// multiplicity returns how often f, which is no constant, divides g, which is not
// 0.
func multiplicity(f, g []int, p int) int {
	n := 0
	for {
		q, r, _ := modular.DivMod(g, f, p)
		if len(r) > 0 {
			return n
		}
		n, g = n+1, q
	}
}
