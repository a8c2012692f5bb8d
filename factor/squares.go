package factor

import (
	"primrose/api"
	"primrose/modular"
	"primrose/prime"
	"primrose/whole"
)

// squares returns primitive square-free polynomials, no two of which have a common
// factor, such that f, which is primitive, is the product of the first one, the
// second one to the power of 2, and so on. They are the Squares of layer 9, each
// times the least integer that makes its coefficients integers; but with
// fractions, great degrees would take a hundred times as long as with residues.
func squares(f []api.Int) [][]api.Int {
	// Yun's algorithm: b is the product of the factors p that are left, each once.
	// The sum c has, for each p, the derivative of p times the other factors of b,
	// as often as p is still a factor of f. The difference of c and the derivative
	// of b has each p's part once less: so those whose parts are gone divide it.
	slope := derivative(f)
	a := common(f, slope)
	b, _ := Divides(f, a)
	c, _ := Divides(slope, a)
	var l [][]api.Int
	for len(b) > 1 {
		d := difference(c, derivative(b))
		a = common(b, d)
		l = append(l, a)
		b, _ = Divides(b, a)
		c, _ = Divides(d, a)
	}
	return l
}

// common returns the primitive greatest common divisor of f, which is primitive,
// and g.
func common(f, g []api.Int) []api.Int {
	if len(g) == 0 {
		return f
	}
	// A multiple of the divisor has this last coefficient. Modulo a prime that does
	// not divide it, the common divisor is no shorter; modulo most, no longer either.
	last := whole.Gcd(f[len(f)-1], g[len(g)-1])
	var m mosaic
	for p := prime.After(1 << 20); ; p = prime.After(p) {
		unit, _ := prime.Mod(last, p)
		if unit == 0 {
			continue
		}
		image := modular.Scale(modular.Gcd(residues(f, p), residues(g, p), p), unit, p)
		if !m.add(image, p) {
			continue
		}
		h := Primitive(m.f)
		_, ok := Divides(f, h)
		_, also := Divides(g, h)
		if ok && also {
			return h
		}
	}
}

// mosaic is a polynomial that is put together of its residues modulo primes: its
// coefficients are the nearest to 0 modulo the product of the primes.
type mosaic struct {
	f       []api.Int
	product api.Int
}

// add puts in the residues modulo one more prime. It reports whether the polynomial
// may be complete, as the residues didn't change it, or it is a constant. One of
// a greater degree is left out, one of a less degree begins anew.
func (m *mosaic) add(image []int, p int) bool {
	if m.f == nil || len(image) < len(m.f) {
		m.f, m.product = make([]api.Int, len(image)), whole.Of(1)
	}
	if len(image) > len(m.f) {
		return false
	}
	unit, _ := prime.Mod(m.product, p)
	unit = prime.Inv(unit, p)
	lack := modular.Scale(modular.Sub(image, residues(m.f, p), p), unit, p)
	for i, c := range lack {
		times := whole.Of(prime.Half(c, p))
		m.f[i] = whole.Add(m.f[i], whole.Mul(times, m.product))
	}
	m.product = whole.Mul(m.product, whole.Of(p))
	return len(lack) == 0 || len(image) == 1
}
