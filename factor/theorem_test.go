package factor_test

import (
	"math/big"
	"testing"

	"primrose/api"
	"primrose/factor"
)

// factored is an answer of Factor, or false if f is too large.
func factored(t *testing.T, f []*big.Int) (*big.Int, []known, bool) {
	t.Helper()
	c, l, e := factor.Factor(fromBig(f))
	if e == api.ErrLong {
		return nil, nil, false
	}
	if e != api.OK {
		t.Fatalf("Factor of %v: %d", f, e)
	}
	var all []known
	for _, x := range l {
		all = append(all, known{toBig(x.P), x.N})
	}
	return toBig([]api.Int{c})[0], all, true
}

// expectTheorem holds what is true of each factorization. It reports whether f is
// not too large.
func expectTheorem(t *testing.T, f []*big.Int) bool {
	t.Helper()
	c, l, ok := factored(t, f)
	if !ok {
		return false
	}
	if !isSame(multiplied(c, l), trimmed(f)) || c.Cmp(content(f)) != 0 {
		t.Fatalf("M4: the product of %v and %v is not %v", c, l, f)
	}
	for i, x := range l {
		if x.n < 1 || len(x.f) < 2 || content(x.f).Cmp(big.NewInt(1)) != 0 || i > 0 && !isBefore(l[i-1].f, x.f) {
			t.Fatalf("M4: Factor of %v: %v", f, l)
		}
		if !isTooLarge(x.f) {
			expectFactors(t, fromBig(x.f), big.NewInt(1), []known{{x.f, 1}})
		}
		if q, ok := factor.Divides(fromBig(f), fromBig(x.f)); !ok || !isSame(mul(toBig(q), x.f), trimmed(f)) {
			t.Fatalf("M4: %v is a factor of %v, but Divides: %v, %t", x.f, f, q, ok)
		}
		for _, y := range l[:i] {
			if _, ok := factor.Divides(fromBig(x.f), fromBig(y.f)); ok {
				t.Fatalf("M4: %v divides %v", y.f, x.f)
			}
		}
	}
	return true
}

// sample makes a polynomial of which nothing is known.
func (s *noise) sample(n, size int) []*big.Int {
	f := make([]*big.Int, n+1)
	for i := range f {
		f[i] = big.NewInt(int64(s.size(size)))
	}
	if f[n].Sign() == 0 {
		f[n].SetInt64(1)
	}
	return f
}

func TestM4Polynomials(t *testing.T) {
	s, done := noise(14), 0
	for n := range 400 {
		f := s.sample(n%25, 1+n/10)
		if expectTheorem(t, f) {
			done++
		}
		if expectTheorem(t, mul(f, mul(f, s.sample(1+n%6, 5)))) {
			done++
		}
	}
	if done < 700 {
		t.Errorf("M4: only %d polynomials were not too large", done)
	}
}

// Those of many terms, and those of a great degree.
func TestM4LongPolynomials(t *testing.T) {
	s := noise(15)
	for n := range 4 {
		expectTheorem(t, s.sample(100+40*n, 20))
		f := make([]*big.Int, 201)
		for i := range f {
			f[i] = new(big.Int)
		}
		f[0], f[s.below(200)], f[200] = big.NewInt(int64(1+n)), big.NewInt(-3), big.NewInt(2)
		expectTheorem(t, f)
	}
}

// The factors of a product are those of both.
func TestM4Products(t *testing.T) {
	s, done := noise(16), 0
	for n := range 300 {
		f, g := s.sample(n%9, 4+n/9), s.sample(n%7, 3)
		if n%3 == 0 {
			g = mul(g, f)
		}
		c, l, ok := factored(t, f)
		d, m, also := factored(t, g)
		if !ok || !also || len(trimmed(f)) == 0 {
			continue
		}
		if b, all, ok := factored(t, mul(f, g)); ok {
			done++
			if want := together(append(l, m...)); b.Cmp(new(big.Int).Mul(c, d)) != 0 || !areSame(all, want) {
				t.Fatalf("M4: Factor of %v times %v: %v, %v, not %v", f, g, b, all, want)
			}
		}
	}
	if done < 200 {
		t.Errorf("M4: only %d products were not too large", done)
	}
}

func areSame(l, m []known) bool {
	if len(l) != len(m) {
		return false
	}
	for i := range l {
		if l[i].n != m[i].n || !isSame(l[i].f, m[i].f) {
			return false
		}
	}
	return true
}

// A content is the only thing that a multiple changes.
func TestM4Contents(t *testing.T) {
	s := noise(17)
	for n := range 60 {
		f, c := s.sample(1+n%9, 9), s.great(1+20*n)
		if b, l, ok := factored(t, f); ok && c.Sign() != 0 {
			expectFactors(t, s.loose(scaled(f, c)), b.Mul(b, c), l)
		}
	}
}
