package several_test

import (
	"math/big"
	"testing"

	"primrose/api"
	"primrose/factor"
	"primrose/several"
)

// expectTold holds an answer for a text against the text that tells it.
func expectTold(t *testing.T, r api.Ring, text, want string) {
	t.Helper()
	c, l, e := several.Factor(r, parsed(t, r, text))
	if got := told(r, c, l); e != api.OK || got != want {
		t.Errorf("N3: Factor of %s in %v: %s, %d, not %s", text, r, got, e, want)
	}
}

func TestN3Examples(t *testing.T) {
	for _, x := range []struct{ text, want string }{
		{"x^2 - y^2", "1 | x - y | x + y"},
		{"2*x*y + 4*y", "2 | y | x + 2"},
		{"x^2 + y^2", "1 | x^2 + y^2"},
		// Constants.
		{"1/2", "1/2"},
		{"1", "1"},
		{"-1", "-1"},
		{"-12/7", "-12/7"},
		{"123456789012345678901234567890", "123456789012345678901234567890"},
		// Variables, with fractions before them.
		{"x", "1 | x"},
		{"-y", "-1 | y"},
		{"2/3*x*y", "2/3 | y | x"},
		{"-x^2*y", "-1 | y | x : 2"},
		{"-1/6*x^2*y^2", "-1/6 | y : 2 | x : 2"},
		{"5*x^5*y", "5 | y | x : 5"},
		// In one of the variables alone.
		{"x^2 - 1", "1 | x - 1 | x + 1"},
		{"y^2 - 1", "1 | y - 1 | y + 1"},
		{"4*y^4 + 1", "1 | 2*y^2 - 2*y + 1 | 2*y^2 + 2*y + 1"},
		{"2*x^3 - 16", "2 | x - 2 | x^2 + 2*x + 4"},
		{"(x^2 - 2)*(y^2 - 2)", "1 | y^2 - 2 | x^2 - 2"},
		{"(x^2 + 1)*(y + 3)*(x - 1)", "1 | y + 3 | x - 1 | x^2 + 1"},
		{"x*y + x + y + 1", "1 | y + 1 | x + 1"},
		{"6*x*y - 4*x + 9*y - 6", "1 | 3*y - 2 | 2*x + 3"},
		// Several multiplicities.
		{"1/2*x^2 - x*y + 1/2*y^2", "1/2 | x - y : 2"},
		{"(x + y)^2*(x - y)", "1 | x - y | x + y : 2"},
		{"-3*(x + y + 1)^2*(x - y)^2", "-3 | x - y : 2 | x + y + 1 : 2"},
		{"x^2*(x + y + 1)^2", "1 | x : 2 | x + y + 1 : 2"},
		{"(2*x - 3*y)^5", "1 | 2*x - 3*y : 5"},
		{"(y - x)^3", "-1 | x - y : 3"},
		{"(x*y + 1)^2*(x*y - 1)", "1 | x*y - 1 | x*y + 1 : 2"},
		// Irreducible, as are their images, or not.
		{"x + y", "1 | x + y"},
		{"x*y - 1", "1 | x*y - 1"},
		{"x*y + 1", "1 | x*y + 1"},
		{"x^2 + x*y + y^2", "1 | x^2 + x*y + y^2"},
		{"x^2 - 2*y^2", "1 | x^2 - 2*y^2"},
		{"x^2*y^2 + 1", "1 | x^2*y^2 + 1"},
		{"x^3*y - 1", "1 | x^3*y - 1"},
		{"x^2 - y^3", "1 | x^2 - y^3"},
		{"x^4 + y^4", "1 | x^4 + y^4"},
		{"x^2*y + x*y^2 + 1", "1 | x^2*y + x*y^2 + 1"},
		{"x^5*y^3 - 1", "1 | x^5*y^3 - 1"},
		{"-2/5*x^2 - 2/5*y^2", "-2/5 | x^2 + y^2"},
		{"x^3 + y^3 + 1", "1 | x^3 + y^3 + 1"},
		// Several parts of the image belong together.
		{"x^3 - y^3", "1 | x - y | x^2 + x*y + y^2"},
		{"x^3*y^3 - 1", "1 | x*y - 1 | x^2*y^2 + x*y + 1"},
		{"x^4 - y^4", "1 | x - y | x + y | x^2 + y^2"},
		{"x^4 + 4*y^4", "1 | x^2 - 2*x*y + 2*y^2 | x^2 + 2*x*y + 2*y^2"},
		{"x^4 + x^2*y^2 + y^4", "1 | x^2 - x*y + y^2 | x^2 + x*y + y^2"},
		{"4*x^4*y^2 + y^2", "1 | y : 2 | 2*x^2 - 2*x + 1 | 2*x^2 + 2*x + 1"},
		{"(x*y - 1)*(x*y + 1)*(x + y)", "1 | x + y | x*y - 1 | x*y + 1"},
		{"(x^2 + y^2)*(x^2 - 2*y^2)", "1 | x^2 - 2*y^2 | x^2 + y^2"},
		{"(x^2 + y)*(x + y^2)", "1 | x + y^2 | x^2 + y"},
		{"(x^2*y - 3*x*y + 2)*(x - y - 1)", "1 | x - y - 1 | x^2*y - 3*x*y + 2"},
		// A square root of 2, 3 or 5 would be needed for more.
		{"(x^2 - 2*y^2)*(x^2 - 3*y^2)", "1 | x^2 - 3*y^2 | x^2 - 2*y^2"},
		{"x^2 - 5", "1 | x^2 - 5"},
		{"x^2 + 2*x*y + y^2 - 2", "1 | x^2 + 2*x*y + y^2 - 2"},
		{"x^2 + 2*x*y + y^2 - 4", "1 | x + y - 2 | x + y + 2"},
	} {
		expectTold(t, lex(2), x.text, x.want)
	}
}

// In one variable the factors are those of layer 13, in this layer's order.
func TestN3OneVariable(t *testing.T) {
	s, done := noise(6), 0
	for _, r := range rings(1) {
		for n := range 120 {
			p := s.sample(1, 2+n%8, 2+n%9, 9)
			p = times(p, s.sample(1, 1+n%4, 1+n%4, 4))
			f := make([]api.Int, degree(p, 0)+1)
			for k, c := range p {
				f[k[0]] = toRat(c).Num
			}
			c, factors, e := factor.Factor(f)
			var want []known
			for _, x := range factors {
				q := sum{}
				for i, c := range x.P {
					q.add(key{i}, toBig(api.Rat{Num: c, Den: []uint32{1}}))
				}
				want = append(want, known{q, x.N})
			}
			if e == api.OK && expectProduct(t, &s, r, toBig(api.Rat{Num: c, Den: []uint32{1}}), want) {
				done++
			}
		}
	}
	if done < 300 {
		t.Errorf("only %d were factored", done)
	}
}

// Products of irreducible polynomials, in all rings.
func TestN3Products(t *testing.T) {
	s, done := noise(7), 0
	for _, r := range allRings() {
		n := len(r.Names)
		high, count := []int{0, 6, 4, 2, 2, 2, 1}[n], []int{0, 60, 60, 30, 9, 6, 20}[n]
		for k := range count {
			var l []known
			for range 1 + k%3 {
				p := s.linear(n, high)
				if k%2 == 1 {
					p = s.eisenstein(n, high)
				}
				l = append(l, known{p, 1 + s.below(2)*s.below(2)})
			}
			if expectProduct(t, &s, r, s.fraction(1+k), l) {
				done++
			}
		}
	}
	if done < 450 {
		t.Errorf("only %d were factored", done)
	}
}

// Polynomials of which nothing is known, against a slow search.
func TestN3Polynomials(t *testing.T) {
	s, done := noise(8), 0
	for n := 1; n <= 6; n++ {
		high := []int{0, 9, 4, 3, 2, 2, 2}[n]
		for k := range 80 {
			r := s.aRing(n)
			p := s.sample(n, 2+k%3, high, 1+k%3)
			if k%2 == 0 {
				p = times(s.sample(n, 2, 2, 2), s.sample(n, 2+k%2, 2, 2))
			}
			c := content(r, p)
			p = primitive(r, p)
			if parts, side, ok := imageParts(r, p); ok && len(parts) <= 7 {
				done++
				expectProduct(t, &s, r, c, irreducibles(r, p, parts, side))
			}
		}
	}
	if done < 230 {
		t.Errorf("only %d were factored", done)
	}
}

// a + b*x + c*y + d*x*y is a product if and only if a*d is b*c, or a variable can
// be taken out of it.
func TestN3Bilinear(t *testing.T) {
	for _, r := range []api.Ring{lex(2), {Names: letters(2), Order: api.Grevlex}} {
		for _, p := range allBilinear(2) {
			l, c := []known{}, content(r, p)
			a, b, cy, d := at(p, 0, 0), at(p, 1, 0), at(p, 0, 1), at(p, 1, 1)
			cross := new(big.Rat).Sub(new(big.Rat).Mul(a, d), new(big.Rat).Mul(b, cy))
			switch {
			case cross.Sign() != 0:
				l = append(l, known{p, 1})
			case b.Sign() != 0 || d.Sign() != 0: // p is a multiple of b + d*y
				inX, inY := sum{}, sum{}
				inY.add(key{}, b)
				inY.add(key{0, 1}, d)
				if b.Sign() != 0 {
					inX.add(key{}, a)
					inX.add(key{1}, b)
				} else {
					inX.add(key{}, cy)
					inX.add(key{1}, d)
				}
				l = append(l, known{inX, 1})
				if d.Sign() != 0 {
					l = append(l, known{inY, 1})
				}
			case cy.Sign() != 0:
				l = append(l, known{p, 1})
			}
			expectFactors(t, r, p.terms(r), c, together(r, l))
		}
	}
}

func at(p sum, i, k int) *big.Rat {
	if c, ok := p[key{i, k}]; ok {
		return c
	}
	return new(big.Rat)
}

// All polynomials of degree 2 with coefficients -1, 0 and 1: those that are no
// product of two of degree 1 are irreducible. The coefficients of these are -1, 0
// and 1 too: the product of those of one variable, or of both constants, is a
// coefficient; and where one factor has a 0, each product of the other one's with
// those of the first one is.
func TestN3Quadratic(t *testing.T) {
	r := lex(2)
	products := map[string][]known{}
	linear := []sum{}
	for code := range 27 {
		p := bilinear(code%3-1, code/3%3-1, code/9-1, 0)
		if len(p) > 0 && degree(p, 0)+degree(p, 1) > 0 {
			linear = append(linear, p)
		}
	}
	for i, p := range linear {
		for _, q := range linear[:i+1] {
			products[printed(r, times(p, q).terms(r))] = []known{{p, 1}, {q, 1}}
		}
	}
	for code := range 729 {
		p := bilinear(code%3-1, code/3%3-1, code/9%3-1, code/27%3-1)
		p.add(key{2}, rat(int64(code/81%3-1), 1))
		p.add(key{0, 2}, rat(int64(code/243-1), 1))
		if at(p, 2, 0).Sign() == 0 && at(p, 1, 1).Sign() == 0 && at(p, 0, 2).Sign() == 0 {
			continue
		}
		l, ok := products[printed(r, p.terms(r))]
		if !ok {
			l = []known{{p, 1}}
		}
		expectFactors(t, r, p.terms(r), content(r, p), together(r, l))
	}
}

func TestN3GreatCoefficients(t *testing.T) {
	s, done := noise(9), 0
	for n := range 60 {
		r := s.aRing(1 + n%3)
		var l []known
		for range 2 {
			// With a constant before one variable, it is irreducible.
			i := s.below(len(r.Names))
			p := plus(scaled(power(i, 1), s.fraction(2*n+1)), constant(s.fraction(2*n+1)))
			for k := range r.Names {
				if k != i {
					p = plus(p, scaled(power(k, 1+s.below(2)), s.fraction(2*n+1)))
				}
			}
			l = append(l, known{p, 1})
		}
		if expectProduct(t, &s, r, s.fraction(20*n+1), l) {
			done++
		}
	}
	if done < 30 {
		t.Errorf("only %d were factored", done)
	}
}

// Coefficients that are multiples of 2^31 - 1, and of other primes.
func TestN3Multiples(t *testing.T) {
	s := noise(10)
	for _, m := range []int64{1<<31 - 1, -(1<<31 - 1), 2 * (1<<31 - 1), 1<<32 - 5, 1 << 32, 1<<61 - 1} {
		c := rat(m, 1)
		for _, r := range rings(2) {
			x, y, one := power(0, 1), power(1, 1), constant(rat(1, 1))
			l := []known{
				{plus(scaled(times(x, y), c), one), 1},
				{plus(scaled(times(x, times(x, y)), c), plus(y, one)), 1},
				{plus(scaled(x, c), scaled(y, rat(m+1, 1))), 1},
				{plus(times(x, x), scaled(plus(y, one), c)), 1},
				{plus(times(x, x), scaled(times(y, y), rat(-m, 1))), 1},
			}
			if m == 1<<32 {
				l = l[:4] // the last one is no irreducible one
			}
			for i, p := range l {
				expectProduct(t, &s, r, c, []known{p})
				for _, q := range l[:i] {
					expectProduct(t, &s, r, c, []known{p, q})
				}
			}
		}
	}
}
