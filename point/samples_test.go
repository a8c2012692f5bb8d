package point_test

import (
	"slices"
	"testing"

	"primrose/api"
	"primrose/basis"
	"primrose/ideal"
)

// shuffled is the same polynomials in another order.
func (s *noise) shuffled(f []sum) []sum {
	for k := range f {
		other := s.below(k + 1)
		f[k], f[other] = f[other], f[k]
	}
	return f
}

// part makes a set of n variables that leaves others.
func (s *noise) part(n int) []int {
	return parts(n)[s.below(1<<n-1)]
}

// form makes a linear form in n variables.
func (s *noise) form(n int) []int {
	l := make([]int, n)
	for k := range l {
		l[k] = s.below(7) - 3
	}
	return l
}

// value makes a polynomial in the variables of u, perhaps 0.
func (s *noise) value(u []int) sum {
	p := constant(rat(int64(s.below(5)-2), int64(1+s.below(2))))
	if len(u) > 0 && s.below(2) == 0 {
		p = plus(p, times(power(u[s.below(len(u))], 1), constant(rat(int64(1+s.below(2)), 1))))
	}
	return p
}

// square makes a polynomial in the variables of u that is no square.
func (s *noise) square(u []int) sum {
	if len(u) > 0 && s.below(2) == 0 {
		return plus(power(u[s.below(len(u))], 1), constant(rat(int64(s.below(3)-1), 1)))
	}
	return constant(rat([]int64{2, 3, -1, 5, -2}[s.below(5)], 1))
}

// prime makes a prime with finitely many points: of one of the other variables the
// square or the value, of each one after it the value, which may contain the first one.
func (s *noise) prime(n int, u []int) []sum {
	others := allBut(n, u...)
	start := s.below(len(others))
	first := power(others[start], 1)
	var f []sum
	for k := range others {
		x := power(others[(start+k)%len(others)], 1)
		switch {
		case k > 0:
			f = append(f, minus(minus(x, s.value(u)), times(first, constant(rat(int64(s.below(3)-1), 1)))))
		case s.below(3) == 0:
			f = append(f, minus(times(x, x), s.square(u)))
		default:
			f = append(f, minus(x, s.value(u)))
		}
	}
	return f
}

// primary makes a primary ideal of a prime: powers of its polynomials, or all products
// of two of them.
func (s *noise) primary(f []sum) []sum {
	var g []sum
	if s.below(4) == 0 && len(f) < 3 {
		for i, p := range f {
			for _, q := range f[i:] {
				g = append(g, times(p, q))
			}
		}
		return g
	}
	for _, p := range f {
		q := p
		for range s.below(4) / 2 {
			q = times(q, p)
		}
		g = append(g, q)
	}
	return g
}

// known is a component that is known.
type known struct{ q, p [][]api.Term }

// reducedOf is the reduced basis.
func reducedOf(t *testing.T, r api.Ring, f [][]api.Term) [][]api.Term {
	t.Helper()
	g, _, e := basis.Reduced(r, f, api.MaxFuel)
	if e != api.OK {
		t.Fatalf("%s in %v: %d", printedList(r, f), r, e)
	}
	return g
}

// met is the intersection, if it does not take too many steps.
func met(r api.Ring, f, h [][]api.Term) (g [][]api.Term, ok bool) {
	g, _, e := ideal.Meet(r, f, h, 150)
	return g, e == api.OK
}

// knownIdeal makes an ideal with components that are known, each prime once. All of
// them have polynomials with the leading coefficient 1, whatever stands for the
// variables of u: so they are their own contractions. What would take too many steps
// is left out.
func (s *noise) knownIdeal(t *testing.T, r api.Ring, u []int, count int) (f []sum, l []known) {
	t.Helper()
	all := [][]api.Term{one(len(r.Names))}
	for range count {
		prime := s.prime(len(r.Names), u)
		x := known{reducedOf(t, r, termsOf(r, s.primary(prime))), reducedOf(t, r, termsOf(r, prime))}
		both, ok := met(r, all, x.q)
		if !ok {
			continue
		}
		k := slices.IndexFunc(l, func(y known) bool { return areEqualLists(x.p, y.p) })
		if k < 0 {
			all, l = both, append(l, x)
		} else if q, ok := met(r, l[k].q, x.q); ok {
			all, l[k].q = both, q
		}
	}
	return sumsOf(all), l
}

// scaled makes multiples of some of the polynomials by others in the variables of u:
// that does not change the contraction.
func (s *noise) scaled(f []sum, u []int) []sum {
	all := slices.Clone(f)
	for k, p := range all {
		if len(u) > 0 && s.below(3) == 0 {
			by := plus(power(u[s.below(len(u))], 1+s.below(2)), s.value(u))
			if len(by) > 0 {
				all[k] = times(p, by)
			}
		}
	}
	return all
}

// sampleIdeal makes polynomials, some of them 0, the same, or multiples of one another,
// most of them with finitely many points.
func (s *noise) sampleIdeal(t *testing.T, r api.Ring, u []int) []sum {
	n, others := len(r.Names), allBut(len(r.Names), u...)
	var f []sum
	switch s.below(8) {
	case 0:
		f = s.samples(1+s.below(2), n, 3, 2, 2)
	case 1, 2: // powers and what is less
		for _, i := range others {
			f = append(f, plus(power(i, 1+s.below(2)), s.sample(n, 1, 2, 2)))
		}
	case 3: // one point, with coefficients in u
		for _, i := range others {
			f = append(f, minus(times(plus(s.value(u), constant(rat(7, 1))), power(i, 1)), s.value(u)))
		}
	case 4: // polynomials in u alone
		f, _ = s.knownIdeal(t, r, u, 1)
		if len(u) > 0 {
			f = append(f, times(plus(s.value(u), constant(rat(7, 1))), power(u[0], 1)))
		}
	default:
		f, _ = s.knownIdeal(t, r, u, 1+s.below(3))
		f = s.scaled(f, u)
	}
	switch s.below(6) {
	case 0:
		f = append(f, sum{})
	case 1:
		f = append(f, times(f[0], s.sample(n, 2, 2, 2)))
	case 2:
		f = append(f, plus(f[0], f[len(f)-1]))
	}
	return s.shuffled(f)
}

// tally counts answers of one kind.
type tally struct {
	answered, whole, points, tooLong, fuel int
	several, multiple, failed, later       int // components, multiplicities, and attempts that fail, also behind the first factor
}

func (c *tally) add(a answer) {
	switch a.e {
	case api.ErrWhole:
		c.whole++
	case api.ErrPoint:
		c.points++
	case api.ErrLong:
		c.tooLong++
	case api.ErrFuel:
		c.fuel++
	case api.OK:
		c.answered++
		c.several += min(1, len(a.l)/2)
		c.multiple += min(1, a.most/2)
		c.failed += min(1, len(a.failed))
		if slices.ContainsFunc(a.failed, func(place int) bool { return place > 0 }) {
			c.later++
		}
	}
}

func (c tally) isAtLeast(d tally) bool {
	return c.answered >= d.answered && c.whole >= d.whole && c.points >= d.points && c.tooLong >= d.tooLong && c.fuel >= d.fuel && c.several >= d.several && c.multiple >= d.multiple && c.failed >= d.failed && c.later >= d.later
}

// Polynomials of all forms, in all rings, by all sets.
func TestSamples(t *testing.T) {
	t.Parallel()
	for call, least := range map[string]tally{
		"Least": {answered: 350, whole: 70, points: 25, fuel: 10}, "Radical": {answered: 350, whole: 70, points: 25, tooLong: 15},
		"Components": {answered: 320, whole: 70, points: 25, tooLong: 15, several: 60, multiple: 100, failed: 12},
	} {
		t.Run(call, func(t *testing.T) {
			t.Parallel()
			s, c := noise(60), tally{}
			for n := 1; n <= 5; n++ {
				for _, r := range rings(n) {
					for range 25 {
						u := s.part(n)
						f := s.sampleIdeal(t, r, u)
						c.add(expectWords(t, question{call, r, s.anyForms(r, f), u, s.form(n - len(u))}, 1000))
					}
				}
			}
			if !c.isAtLeast(least) {
				t.Errorf("only %+v", c)
			}
		})
	}
}

// Great coefficients, of both signs, and those that are fractions.
func TestGreatNumbers(t *testing.T) {
	t.Parallel()
	for _, call := range calls() {
		t.Run(call, func(t *testing.T) {
			t.Parallel()
			s, c := noise(61), tally{}
			for k := range 60 {
				n := 1 + k%3
				r := rings(n)[k%len(rings(n))]
				u := s.part(n)
				var f []sum
				for _, i := range allBut(n, u...) {
					f = append(f, plus(power(i, 1+s.below(2)), times(s.in(n, u), constant(s.fraction(20+5*k)))))
				}
				form := make([]int, n-len(u))
				for k := range form {
					form[k] = int(s.great(63).Int64())
				}
				c.add(expectWords(t, question{call, r, s.anyForms(r, f), u, form}, 600))
			}
			if c.answered < 45 {
				t.Errorf("only %+v", c)
			}
		})
	}
}

// in makes a polynomial in the variables of u alone.
func (s *noise) in(n int, u []int) sum {
	p := s.sample(n, 2, 2, 2)
	for _, i := range allBut(n, u...) {
		q := sum{}
		for e, c := range p {
			e[i] = 0
			q.add(e, c)
		}
		p = q
	}
	return p
}

// All pairs of polynomials of degree at most 1 in each of two variables, with
// coefficients from -1 to 1.
func TestSmallPolynomials(t *testing.T) {
	t.Parallel()
	var all []sum
	for code := range 81 {
		p, rest := sum{}, code
		for place := range 4 {
			p.add(key{place % 2, place / 2}, rat(int64(rest%3-1), 1))
			rest /= 3
		}
		all = append(all, p)
	}
	for _, call := range calls() {
		t.Run(call, func(t *testing.T) {
			t.Parallel()
			for i, p := range all {
				for k, q := range all {
					if (i+k)%4 > 0 {
						continue
					}
					r, u := rings(2)[(i+k/4)%4], parts(2)[(i/4+k)%3]
					f := []sum{p, q, all[(5*i+k)%81]}[:2+k%2]
					expectWords(t, question{call, r, termsOf(r, f), u, []int{i%5 - 2, k%3 - 1}[:2-len(u)]}, 300)
				}
			}
		})
	}
}
