package lift

import (
	"slices"

	"primrose/api"
	"primrose/modular"
	"primrose/prime"
	"primrose/whole"
)

// liftTwo returns the monic polynomials modulo the last one of moduli, which are
// powers of p, that are g and h modulo p, and whose product is f.
func liftTwo(f []api.Int, g, h []int, p int, moduli []api.Int) (first, second []api.Int) {
	if len(g) > len(h) {
		// Only the first one is improved, so it had better be short.
		second, first = liftTwo(f, h, g, p, moduli)
		return first, second
	}
	first, second = wholes(g), wholes(h)
	inverse := wholes(inverted(h, g, p))
	for i, q := range moduli[1:] {
		known := moduli[i]
		inverse = refined(inverse, second, first, known)
		first = improved(f, first, inverse, known, q)
		second, _ = divided(f, first, q)
	}
	return first, second
}

// improved returns the factor of f modulo q that g is modulo known, whose square
// is a multiple of q. By inverse, the other factor leaves 1 if divided by g.
//
// What g lacks, times the other factor, leaves the same as f if divided by g.
func improved(f, g, inverse []api.Int, known, q api.Int) []api.Int {
	_, rest := divided(f, g, q)
	for i, c := range rest {
		rest[i], _, _ = whole.Div(c, known)
	}
	missing, _, _ := whole.Div(q, known)
	_, lack := divided(product(inverse, rest), g, missing)
	better := slices.Clone(g)
	for i, c := range lack {
		better[i] = whole.Add(better[i], whole.Mul(c, known))
	}
	return better
}

// refined returns the polynomial that, times h, leaves 1 modulo q if divided by g,
// where inverse does so modulo a number whose square is a multiple of q.
//
// If the product with inverse is 1 + e, that with inverse * (1 - e) is 1 - e^2.
func refined(inverse, h, g []api.Int, q api.Int) []api.Int {
	_, reduced := divided(h, g, q)
	_, factor := divided(product(inverse, reduced), g, q)
	for i, c := range factor {
		factor[i] = whole.Neg(c)
	}
	factor[0] = whole.Add(factor[0], whole.Of(2))
	_, better := divided(product(inverse, factor), g, q)
	return better
}

// inverted returns the polynomial that, times h, leaves 1 if divided by g, which
// has no common factor with h.
func inverted(h, g []int, p int) []int {
	_, b, _ := modular.DivMod(h, g, p)
	a, s, t := g, []int{}, []int{1} // s and t times h leave a and b
	for len(b) > 1 {
		q, rest, _ := modular.DivMod(a, b, p)
		a, b = b, rest
		s, t = t, modular.Sub(s, modular.Mul(q, t, p), p)
	}
	return modular.Scale(t, prime.Inv(b[0], p), p)
}
