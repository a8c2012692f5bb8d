package several_test

import (
	"math/big"
	"slices"
	"testing"

	"primrose/api"
	"primrose/several"
)

// factored is an answer of Factor, or false if p is too great.
func factored(t *testing.T, r api.Ring, p sum) (*big.Rat, []known, bool) {
	t.Helper()
	c, l, e := several.Factor(r, p.terms(r))
	if e == api.ErrLong {
		return nil, nil, false
	}
	if e != api.OK {
		t.Fatalf("Factor of %v: %d", p, e)
	}
	var all []known
	for _, x := range l {
		all = append(all, known{sumOf(x.P), x.N})
	}
	return toBig(c), all, true
}

// expectTheorem holds what is true of each factorization. It reports whether p is
// not too great.
func expectTheorem(t *testing.T, r api.Ring, p sum) bool {
	t.Helper()
	c, l, ok := factored(t, r, p)
	if !ok {
		return false
	}
	if !isSame(multiplied(c, l), p) || c.Cmp(content(r, p)) != 0 {
		t.Fatalf("N4: the product of %v and %v is not %v", c, l, p)
	}
	for i, x := range l {
		if x.n < 1 || content(r, x.p).Cmp(rat(1, 1)) != 0 || greatest(x.p) == (key{}) || i > 0 && !isBefore(r, l[i-1].p, x.p) {
			t.Fatalf("N4: Factor of %v: %v", p, l)
		}
		if _, _, ok := imageParts(r, x.p); ok {
			expectFactors(t, r, x.p.terms(r), rat(1, 1), []known{{x.p, 1}})
		}
		rest, ok := quotient(p, x.p)
		if !ok {
			t.Fatalf("N4: %v does not divide %v", x.p, p)
		}
		expectQuotient(t, r, p.terms(r), x.p.terms(r), rest)
		for _, y := range l[:i] {
			expectNoQuotient(t, r, x.p.terms(r), y.p.terms(r))
			expectNoQuotient(t, r, y.p.terms(r), x.p.terms(r))
		}
	}
	return true
}

func TestN4Polynomials(t *testing.T) {
	s, done := noise(12), 0
	for n := 1; n <= 6; n++ {
		high, count := []int{0, 9, 5, 3, 2, 2, 2}[n], []int{0, 90, 90, 60, 20, 9, 9}[n]
		for k := range count {
			r := s.aRing(n)
			p := scaled(s.sample(n, 1+k%6, high, 1+k%9), s.fraction(1+k))
			if expectTheorem(t, r, p) {
				done++
			}
			if expectTheorem(t, r, times(p, s.sample(n, 2, 2, 2))) {
				done++
			}
		}
	}
	if done < 400 {
		t.Errorf("only %d were factored", done)
	}
}

// The factors of a product are those of both polynomials.
func TestN4Products(t *testing.T) {
	s, done := noise(13), 0
	for n := 1; n <= 6; n++ {
		high, count := []int{0, 6, 4, 2, 2, 2, 2}[n], []int{0, 90, 90, 60, 20, 9, 9}[n]
		for k := range count {
			r := s.aRing(n)
			p := scaled(s.sample(n, 1+k%4, high, 3), s.fraction(1+k))
			q := scaled(s.sample(n, 1+k%3, high-k%2, 3), s.fraction(1+k))
			byP, l, okP := factored(t, r, p)
			byQ, m, okQ := factored(t, r, q)
			by, all, ok := factored(t, r, times(p, q))
			if !ok {
				continue
			}
			if !okP || !okQ {
				continue // the product is longer, but need not be too great
			}
			done++
			want := together(r, slices.Concat(l, m))
			same := slices.EqualFunc(all, want, func(x, y known) bool { return x.n == y.n && isSame(x.p, y.p) })
			if !same || by.Cmp(new(big.Rat).Mul(byP, byQ)) != 0 {
				t.Fatalf("N4: in %v: %v and %v, but %v", r, l, m, all)
			}
		}
	}
	if done < 200 {
		t.Errorf("only %d were factored", done)
	}
}

// Squares of irreducible polynomials, and of products.
func TestN4Powers(t *testing.T) {
	s, done := noise(14), 0
	for k := range 90 {
		r := s.aRing(1 + k%3)
		p := s.linear(len(r.Names), 2)
		for n := 1; n <= 4; n++ {
			if expectProduct(t, &s, r, s.fraction(1+k), []known{{p, n}}) {
				done++
			}
		}
	}
	if done < 200 {
		t.Errorf("only %d were factored", done)
	}
}
