package dense

import "primrose/api"

// Radical returns the monic square-free polynomial that has the same irreducible
// factors as f, 0 for 0, and 1 for other constants (I6).
func Radical(f []api.Rat) []api.Rat {
	// The derivative has each factor once less: f divided by both's common divisor
	// has each once. There is no such quotient of 0, which is its own radical.
	once, _, _ := DivMod(f, common(f, Deriv(f)))
	return Monic(once)
}

// Squares returns the square-free factorization of f, an empty list for
// constants (I7).
func Squares(f []api.Rat) [][]api.Rat {
	f = primitive(f) // so that all coefficients below are integers
	if len(f) <= 1 {
		return nil
	}
	// Yun's algorithm: b is the product of the factors p that are left, each once.
	// The sum c has, for each p, the derivative of p times the other factors of b,
	// as often as p is still a factor of f. The difference of c and the derivative
	// of b has each p's part once less: so those whose parts are gone divide it.
	slope := Deriv(f)
	a := common(f, slope)
	b, _, _ := DivMod(f, a)
	c, _, _ := DivMod(slope, a)
	var l [][]api.Rat
	for len(b) > 1 {
		d := Sub(c, Deriv(b))
		a = common(b, d)
		l = append(l, Monic(a))
		b, _, _ = DivMod(b, a)
		c, _, _ = DivMod(d, a)
	}
	return l
}
