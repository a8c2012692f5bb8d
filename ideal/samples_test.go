package ideal_test

import (
	"testing"

	"primrose/api"
)

// sampleQuestion makes a question with polynomials in any form, some of them 0, the
// same, multiples of one another, or numbers.
func (s *noise) sampleQuestion(call string, r api.Ring, digits int) question {
	n := len(r.Names)
	f, h := s.samples(s.below(4), n, 3, 3, digits), s.samples(s.below(3), n, 3, 2, digits)
	switch s.below(6) {
	case 0:
		h = append(h, f...)
	case 1:
		common := s.sample(n, 2, 2, digits)
		f = append(f, times(common, s.sample(n, 2, 2, digits)))
		h = append(h, times(common, s.sample(n, 2, 2, digits)))
	case 2:
		f = append(f, constant(s.fraction(digits)))
	case 3:
		h = append(h, constant(s.fraction(digits)))
	}
	f, h = s.shuffled(f), s.shuffled(h)
	if hasOne(call) {
		h = append(h, s.sample(n, 2, 2, digits))[:1]
	}
	return question{call, r, s.anyForms(r, f), s.anyForms(r, h), s.below(n + 1)}
}

// shuffled is the same polynomials in another order.
func (s *noise) shuffled(f []sum) []sum {
	for k := range f {
		other := s.below(k + 1)
		f[k], f[other] = f[other], f[k]
	}
	return f
}

// Polynomials of all forms, in all rings.
func TestSamples(t *testing.T) {
	for _, call := range calls() {
		t.Run(call, func(t *testing.T) {
			t.Parallel()
			s, finished := noise(60), 0
			for _, r := range allRings() {
				for k := range 25 {
					if a := expectWords(t, s.sampleQuestion(call, r, 1+k%4), 100); a.e == api.OK {
						finished++
					}
				}
			}
			if finished < 400 {
				t.Errorf("only %d samples of %s were answered", finished, call)
			}
		})
	}
}

// Great coefficients, of both signs, and those that are fractions.
func TestGreatNumbers(t *testing.T) {
	for _, call := range calls() {
		t.Run(call, func(t *testing.T) {
			t.Parallel()
			s, finished := noise(61), 0
			for k := range 40 {
				r := rings(1 + k%3)[k%3]
				if a := expectWords(t, s.sampleQuestion(call, r, 10+8*k), 100); a.e == api.OK {
					finished++
				}
			}
			if finished < 30 {
				t.Errorf("only %d samples of %s were answered", finished, call)
			}
		})
	}
}

// small are the polynomials of degree at most 1 in each of two variables with
// coefficients from -1 to 1.
func small() []sum {
	var all []sum
	for code := range 81 {
		p, rest := sum{}, code
		for place := range 4 {
			p.add(key{place % 2, place / 2}, rat(int64(rest%3-1), 1))
			rest /= 3
		}
		all = append(all, p)
	}
	return all
}

// All pairs of small polynomials, alone and beside another one.
func TestSmallPolynomials(t *testing.T) {
	all := small()
	for _, call := range calls() {
		t.Run(call, func(t *testing.T) {
			t.Parallel()
			for i, p := range all {
				for k, q := range all {
					if (i+k)%5 > 0 {
						continue
					}
					r := rings(2)[(i+k/2)%4]
					x := question{call, r, termsOf(r, []sum{p, all[(5*i+k)%81]}[:1+k%2]), termsOf(r, []sum{q, all[(7*k+i)%81]}[:1+i%2]), i % 3}
					if hasOne(call) {
						x.h = x.h[:1]
					}
					expectWords(t, x, 60)
				}
			}
		})
	}
}
