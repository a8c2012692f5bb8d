package stair_test

import (
	"testing"

	"primrose/api"
)

// sampleIdeal makes polynomials, some of them 0, the same, multiples of one another,
// or numbers.
func (s *noise) sampleIdeal(n, digits int) []sum {
	f := s.samples(s.below(4), n, 3, 3, digits)
	switch s.below(7) {
	case 0:
		common := s.sample(n, 2, 2, digits)
		f = append(f, times(common, s.sample(n, 2, 2, digits)), times(common, s.sample(n, 2, 2, digits)))
	case 1:
		f = append(f, constant(s.fraction(digits)))
	case 2:
		f = append(f, s.sample(n, 1, 3, digits), s.sample(n, 1, 3, digits))
	case 3, 4:
		for i := range n {
			f = append(f, plus(power(i, 1+s.below(3)), s.sample(n, 1, 2, digits)))
		}
	}
	return s.shuffled(f)
}

// Polynomials of all forms, in all rings.
func TestSamples(t *testing.T) {
	t.Parallel()
	s, dims, monomials := noise(60), map[int]int{}, 0
	for _, r := range allRings() {
		for k := range 60 {
			f := s.sampleIdeal(len(r.Names), 1+k%4)
			a := expectWords(t, r, s.anyForms(r, f), 100)
			if a.e == api.OK {
				dims[a.dim]++
				monomials += len(a.below)
			}
		}
	}
	for dim := -1; dim <= 6; dim++ {
		if dims[dim] < 10 {
			t.Errorf("only %d samples with dimension %d", dims[dim], dim)
		}
	}
	if monomials < 1200 {
		t.Errorf("only %d monomials", monomials)
	}
}

// Great coefficients, of both signs, and those that are fractions.
func TestGreatNumbers(t *testing.T) {
	t.Parallel()
	s, finished := noise(61), 0
	for k := range 80 {
		r := rings(1 + k%3)[k%3]
		if a := expectWords(t, r, s.anyForms(r, s.sampleIdeal(len(r.Names), 10+6*k)), 100); a.e == api.OK {
			finished++
		}
	}
	if finished < 60 {
		t.Errorf("only %d samples were answered", finished)
	}
}

// All pairs of polynomials of degree at most 1 in each of two variables, with
// coefficients from -1 to 1.
func TestSmallPolynomials(t *testing.T) {
	t.Parallel()
	var all []sum
	for code := range 81 {
		p, rest := sum{}, code
		for place := range 4 {
			p.add(key{place % 2, place / 2}, rat(int64(rest%3-1), 1))
			rest /= 3
		}
		all = append(all, p)
	}
	for i, p := range all {
		r := rings(2)[i%4]
		for k, q := range all {
			f := []sum{p, q, all[(5*i+k)%81]}[:2+k%2]
			expectWords(t, r, termsOf(r, f), 200)
		}
	}
}
