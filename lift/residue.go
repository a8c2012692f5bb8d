package lift

import (
	"slices"

	"primrose/api"
	"primrose/whole"
)

// power returns p^n for n of at least 1.
func power(p, n int) api.Int {
	if n == 1 {
		return whole.Of(p)
	}
	half := power(p, n/2)
	square := whole.Mul(half, half)
	if n%2 == 0 {
		return square
	}
	return whole.Mul(square, whole.Of(p))
}

// powers returns p and further powers, each at most the square of the one before,
// up to p^k.
func powers(p, k int) []api.Int {
	l := []api.Int{power(p, k)}
	for k > 1 {
		k = (k + 1) / 2
		l = append(l, power(p, k))
	}
	slices.Reverse(l)
	return l
}

// trimmed returns f without the zeros at its end.
func trimmed(f []api.Int) []api.Int {
	n := len(f)
	for n > 0 && whole.Sign(f[n-1]) == 0 {
		n--
	}
	return f[:n:n]
}

// residues returns the residues of the coefficients of f modulo q.
func residues(f []api.Int, q api.Int) []api.Int {
	l := make([]api.Int, len(f))
	for i, c := range f {
		_, l[i], _ = whole.Div(c, q)
	}
	return l
}

// small returns the residues of the coefficients of f modulo p as ints.
func small(f []api.Int, p int) []int {
	l := make([]int, len(f))
	for i, c := range residues(f, whole.Of(p)) {
		l[i], _ = whole.Small(c)
	}
	return l
}

func wholes(f []int) []api.Int {
	l := make([]api.Int, len(f))
	for i, c := range f {
		l[i] = whole.Of(c)
	}
	return l
}

// product returns f times g, not reduced.
func product(f, g []api.Int) []api.Int {
	l := make([]api.Int, max(len(f)+len(g)-1, 0))
	for i, a := range f {
		for j, b := range g {
			l[i+j] = whole.Add(l[i+j], whole.Mul(a, b))
		}
	}
	return l
}

// divided divides f by the monic g modulo q. A coefficient is reduced only when it
// is due, as that takes as long as a product.
func divided(f, g []api.Int, q api.Int) (quotient, rest []api.Int) {
	n := min(len(g)-1, len(f))
	quotient = make([]api.Int, len(f)-n)
	rest = slices.Clone(f)
	for i := len(quotient) - 1; i >= 0; i-- {
		_, c, _ := whole.Div(rest[i+n], q)
		for j, b := range g[:n] {
			rest[i+j] = whole.Sub(rest[i+j], whole.Mul(c, b))
		}
		quotient[i] = c
	}
	return quotient, residues(rest[:n], q)
}
