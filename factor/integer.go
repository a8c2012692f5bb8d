package factor

import (
	"primrose/api"
	"primrose/whole"
)

// trimmed returns f without the zeros at its end.
func trimmed(f []api.Int) []api.Int {
	n := len(f)
	for n > 0 && whole.Sign(f[n-1]) == 0 {
		n--
	}
	return f[:n:n]
}

// product multiplies two polynomials that are not 0.
func product(f, g []api.Int) []api.Int {
	l := make([]api.Int, len(f)+len(g)-1)
	for i, c := range f {
		subtractTimes(l[i:i+len(g)], whole.Neg(c), g)
	}
	return l
}

// difference returns f - g.
func difference(f, g []api.Int) []api.Int {
	l := make([]api.Int, max(len(f), len(g)))
	copy(l, f)
	subtractTimes(l[:len(g)], whole.Of(1), g)
	return trimmed(l)
}

// subtractTimes subtracts from f c times as many coefficients of g.
func subtractTimes(f []api.Int, c api.Int, g []api.Int) {
	if whole.Sign(c) == 0 {
		return
	}
	for i := range f {
		f[i] = whole.Sub(f[i], whole.Mul(c, g[i]))
	}
}

func derivative(f []api.Int) []api.Int {
	l := make([]api.Int, max(len(f)-1, 0))
	for i := range l {
		l[i] = whole.Mul(f[i+1], whole.Of(i+1))
	}
	return l
}

// value returns the value of f at x.
func value(f []api.Int, x api.Int) api.Int {
	sum := whole.Of(0)
	for i := len(f) - 1; i >= 0; i-- {
		sum = whole.Add(whole.Mul(sum, x), f[i])
	}
	return sum
}

// residues returns the residues of the coefficients modulo p.
func residues(f []api.Int, p int) []int {
	l := make([]int, len(f))
	for i, c := range f {
		_, residue, _ := whole.Div(c, whole.Of(p))
		l[i], _ = whole.Small(residue)
	}
	return l
}

func absolute(a api.Int) api.Int {
	return api.Int{Mag: a.Mag}
}

// divides reports whether a is a multiple of b.
func divides(b, a api.Int) bool {
	_, rest, ok := whole.Div(a, b)
	return whole.Sign(a) == 0 || ok && whole.Sign(rest) == 0
}

// nearest returns the residue of a modulo q that is nearest to 0.
func nearest(a, q api.Int) api.Int {
	_, residue, _ := whole.Div(a, q)
	if whole.Cmp(whole.Add(residue, residue), q) > 0 {
		return whole.Sub(residue, q)
	}
	return residue
}

// power returns a^n for n of at least 0.
func power(a api.Int, n int) api.Int {
	if n == 0 {
		return whole.Of(1)
	}
	half := power(a, n/2)
	square := whole.Mul(half, half)
	if n%2 == 0 {
		return square
	}
	return whole.Mul(square, a)
}
