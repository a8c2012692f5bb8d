package extend_test

import (
	"testing"

	"primrose/api"
)

// shuffled is the same polynomials in another order.
func (s *noise) shuffled(f []sum) []sum {
	for k := range f {
		other := s.below(k + 1)
		f[k], f[other] = f[other], f[k]
	}
	return f
}

// set makes a set of n variables.
func (s *noise) set(n int) []int {
	return allSets(n)[s.below(1<<n)]
}

// sampleIdeal makes polynomials, some of them 0, the same, multiples of one another,
// or numbers.
func (s *noise) sampleIdeal(n, digits int) []sum {
	f := s.samples(s.below(3), n, 3, 3, digits)
	switch s.below(8) {
	case 0:
		f = append(f, constant(s.fraction(digits)))
	case 1, 2:
		common := s.sample(n, 2, 2, digits)
		f = append(f, times(common, s.sample(n, 2, 2, digits)), times(common, s.sample(n, 2, 2, digits)))
	case 3:
		f = append(f, s.sample(n, 1, 3, digits), s.sample(n, 1, 3, digits))
	case 4, 5: // what is left of a prime, with coefficients in the other variables
		p, q := s.sample(n, 1, 2, 1), s.sample(n, 2, 2, digits)
		f = append(f[:min(len(f), 1)], times(p, q), times(p, s.sample(n, 1, 2, 1)), times(times(p, p), s.sample(n, 1, 2, 1)))
	case 6:
		for i := range n {
			f = append(f, plus(power(i, 1+s.below(3)), s.sample(n, 1, 2, digits)))
		}
	}
	return s.shuffled(f)
}

// tally counts answers of one kind.
type tally struct{ answered, whole, points, tooLong, fuel, divided, saturated int }

func (c *tally) add(a answer) {
	switch a.e {
	case api.ErrWhole:
		c.whole++
	case api.ErrPoint:
		c.points++
	case api.ErrLong:
		c.tooLong++
	case api.ErrFuel:
		c.fuel++
	case api.OK:
		c.answered++
		if a.s > 0 {
			c.divided++
		}
		if a.s > 1 {
			c.saturated++
		}
	}
}

// Polynomials of all forms, in all rings.
func TestSamples(t *testing.T) {
	t.Parallel()
	for call, least := range map[string]tally{
		"Contract": {answered: 600, tooLong: 150, fuel: 150}, "Halve": {answered: 400, whole: 150, tooLong: 100, divided: 250, saturated: 5},
		"Degree": {answered: 500, points: 300},
	} {
		t.Run(call, func(t *testing.T) {
			t.Parallel()
			s, c := noise(60), tally{}
			for _, r := range allRings() {
				n := len(r.Names)
				for k := range 35 {
					f := s.sampleIdeal(n, 1+k%4)
					if 1 < n && k < 2 {
						f = s.chain(n, s.below(n), 1+s.below(min(2, n-1)))
					}
					c.add(expectWords(t, question{call, r, s.anyForms(r, f), s.set(n)}, 200))
				}
			}
			if !c.isAtLeast(least) {
				t.Errorf("only %+v", c)
			}
		})
	}
}

func (c tally) isAtLeast(d tally) bool {
	return c.answered >= d.answered && c.whole >= d.whole && c.points >= d.points && c.tooLong >= d.tooLong && c.fuel >= d.fuel && c.divided >= d.divided && c.saturated >= d.saturated
}

// Great coefficients, of both signs, and those that are fractions.
func TestGreatNumbers(t *testing.T) {
	t.Parallel()
	for _, call := range calls() {
		t.Run(call, func(t *testing.T) {
			t.Parallel()
			s, c := noise(61), tally{}
			for k := range 80 {
				r := rings(1 + k%3)[k%3]
				n := len(r.Names)
				c.add(expectWords(t, question{call, r, s.anyForms(r, s.sampleIdeal(n, 10+6*k)), s.set(n)}, 100))
			}
			if c.fuel+c.tooLong > 30 || c.answered < 25 {
				t.Errorf("only %+v", c)
			}
		})
	}
}

// All pairs of polynomials of degree at most 1 in each of two variables, with
// coefficients from -1 to 1.
func TestSmallPolynomials(t *testing.T) {
	t.Parallel()
	var all []sum
	for code := range 81 {
		p, rest := sum{}, code
		for place := range 4 {
			p.add(key{place % 2, place / 2}, rat(int64(rest%3-1), 1))
			rest /= 3
		}
		all = append(all, p)
	}
	for _, call := range calls() {
		t.Run(call, func(t *testing.T) {
			t.Parallel()
			for i, p := range all {
				for k, q := range all {
					if (i+k)%4 > 0 {
						continue
					}
					r := rings(2)[(i+k/4)%4]
					f := []sum{p, q, all[(5*i+k)%81]}[:2+k%2]
					expectWords(t, question{call, r, termsOf(r, f), allSets(2)[(i/4+k)%4]}, 200)
				}
			}
		})
	}
}
