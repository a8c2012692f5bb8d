package factor

import (
	"primrose/api"
	"primrose/whole"
)

// monicForm returns the monic form of f, which is square-free and no constant, and
// the sum of the absolute values of its coefficients. It returns false as soon as
// it is known that f is too large whatever its prime is: the form may be much
// longer than f.
func monicForm(f []api.Int) (form []api.Int, sum api.Int, ok bool) {
	n := len(f) - 1
	if n > 32*maxLimbs {
		return nil, api.Int{}, false
	}
	form = make([]api.Int, n+1)
	form[n], sum = whole.Of(1), whole.Of(1)
	times := whole.Of(1)
	for i := n - 1; i >= 0; i-- {
		form[i] = whole.Mul(f[i], times)
		sum = whole.Add(sum, absolute(form[i]))
		// As one of the first two coefficients of f is not 0, the sum will be at
		// least as great as times while i > 0.
		if len(sum.Mag) > maxLimbs || i > 0 && len(times.Mag) > maxLimbs {
			return nil, api.Int{}, false
		}
		if i > 0 {
			times = whole.Mul(times, f[n])
		}
	}
	return form, sum, true
}

// fromMonic returns the primitive factor of a polynomial with that last
// coefficient, if g is the factor of its monic form.
func fromMonic(g []api.Int, last api.Int) []api.Int {
	l := make([]api.Int, len(g))
	times := whole.Of(1)
	for i, c := range g {
		l[i] = whole.Mul(c, times)
		times = whole.Mul(times, last)
	}
	return Primitive(l)
}

// monicModulo returns the residues of the monic form of f modulo p, which is a
// prime.
func monicModulo(f []api.Int, p int) []int {
	form := residues(f, p)
	n := len(f) - 1
	last, times := form[n], 1
	form[n] = 1
	for i := n - 1; i >= 0; i-- {
		form[i] = form[i] * times % p
		times = times * last % p
	}
	return form
}
