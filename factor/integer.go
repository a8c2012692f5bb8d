package factor

import (
	"primrose/api"
	"primrose/fraction"
	"primrose/whole"
)

// trimmed returns f without the zeros at its end.
func trimmed(f []api.Int) []api.Int {
	n := len(f)
	for n > 0 && whole.Sign(f[n-1]) == 0 {
		n--
	}
	return f[:n:n]
}

// product multiplies two polynomials that are not 0.
func product(f, g []api.Int) []api.Int {
	l := make([]api.Int, len(f)+len(g)-1)
	for i, c := range f {
		subtractTimes(l[i:i+len(g)], whole.Neg(c), g)
	}
	return l
}

// subtractTimes subtracts from f c times as many coefficients of g.
func subtractTimes(f []api.Int, c api.Int, g []api.Int) {
	if whole.Sign(c) == 0 {
		return
	}
	for i := range f {
		f[i] = whole.Sub(f[i], whole.Mul(c, g[i]))
	}
}

// valueAtOne returns the value of f at 1.
func valueAtOne(f []api.Int) api.Int {
	sum := whole.Of(0)
	for _, c := range f {
		sum = whole.Add(sum, c)
	}
	return sum
}

func absolute(a api.Int) api.Int {
	return api.Int{Mag: a.Mag}
}

// divides reports whether a is a multiple of b.
func divides(b, a api.Int) bool {
	_, rest, ok := whole.Div(a, b)
	return whole.Sign(a) == 0 || ok && whole.Sign(rest) == 0
}

// power returns a^n for n of at least 0.
func power(a api.Int, n int) api.Int {
	if n == 0 {
		return whole.Of(1)
	}
	half := power(a, n/2)
	square := whole.Mul(half, half)
	if n%2 == 0 {
		return square
	}
	return whole.Mul(square, a)
}

// fractions returns f with fractions as coefficients.
func fractions(f []api.Int) []api.Rat {
	l := make([]api.Rat, len(f))
	for i, c := range f {
		l[i] = fractionOf(c)
	}
	return l
}

// integers returns f times the least positive integer that makes its coefficients
// integers.
func integers(f []api.Rat) []api.Int {
	times := fraction.Of(1)
	for _, c := range f {
		// The denominator that is left is what times still lacks.
		lack := api.Int{Mag: fraction.Mul(c, times).Den}
		times = fraction.Mul(times, fractionOf(lack))
	}
	l := make([]api.Int, len(f))
	for i, c := range f {
		l[i] = fraction.Mul(c, times).Num
	}
	return l
}

func fractionOf(a api.Int) api.Rat {
	return api.Rat{Num: a, Den: []uint32{1}}
}
