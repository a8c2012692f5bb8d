package primary_test

import (
	"slices"
	"testing"

	"primrose/api"
	"primrose/basis"
	"primrose/fraction"
	"primrose/ideal"
)

// value makes a polynomial in some of the variables, perhaps 0.
func (s *noise) value(r api.Ring, among []int) []api.Term {
	p := number(r, s.below(5)-2)
	if len(among) > 0 && s.below(2) == 0 {
		p = plus(r, p, variable(r, among[s.below(len(among))], 1))
	}
	return p
}

// prime makes a prime: of some variables the first one minus a value in the variables that
// are left, or its square minus what is no square, and of the others each one minus such
// a value, which may contain the first one, too. What is left is returned if there is no
// square.
func (s *noise) prime(r api.Ring) (f [][]api.Term, left []int) {
	n := len(r.Names)
	var of []int
	for i := range n {
		if s.below(2) == 0 {
			of = append(of, i)
		} else {
			left = append(left, i)
		}
	}
	if len(of) == 0 {
		of, left = left[:1], left[1:]
	}
	start := s.below(len(of))
	first := variable(r, of[start], 1)
	f = [][]api.Term{minus(r, first, s.value(r, left))}
	square := s.below(4) == 0
	if square {
		f[0] = minus(r, times(r, first, first), number(r, []int{2, 3, -1, 5, -2}[s.below(5)]))
		if len(left) > 0 && s.below(2) == 0 {
			f[0] = minus(r, times(r, first, first), variable(r, left[s.below(len(left))], 1))
		}
	}
	for k := 1; k < len(of); k++ {
		x := variable(r, of[(start+k)%len(of)], 1)
		p := minus(r, x, s.value(r, left))
		if s.below(3) == 0 {
			p = minus(r, p, first)
		}
		f = append(f, p)
	}
	if square {
		return f, nil
	}
	return f, left
}

// primary makes a primary ideal of a prime, by powers of its polynomials with at most so
// high exponents.
func (s *noise) primary(r api.Ring, f [][]api.Term, most int) [][]api.Term {
	var g [][]api.Term
	for _, p := range f {
		q := p
		for range s.below(2*most) / 2 {
			q = times(r, q, p)
		}
		g = append(g, q)
	}
	return g
}

// met is the intersection, if it does not take too many steps.
func met(r api.Ring, f, h [][]api.Term) (g [][]api.Term, ok bool) {
	g, _, e := ideal.Meet(r, f, h, 200)
	return g, e == api.OK
}

// metAll is the intersection of all ideals, if it does not take too many steps.
func metAll(r api.Ring, l [][][]api.Term) (g [][]api.Term, ok bool) {
	g, ok = [][]api.Term{number(r, 1)}, true
	for _, f := range l {
		if ok {
			g, ok = met(r, g, f)
		}
	}
	return g, ok
}

// isSubset reports whether the ideal of f is contained in that of h.
func isSubset(t *testing.T, r api.Ring, f, h [][]api.Term) bool {
	t.Helper()
	is, _, e := ideal.Subset(r, f, h, api.MaxFuel)
	if e != api.OK {
		t.Fatalf("%s and %s in %v: %d", printedList(r, f), printedList(r, h), r, e)
	}
	return is
}

// knownIdeal makes an ideal with components that are known, each prime once and none
// redundant. What would take too many steps is left out.
func (s *noise) knownIdeal(t *testing.T, r api.Ring, count int) (f [][]api.Term, l []api.Component) {
	t.Helper()
	add := func(prime, primary [][]api.Term) {
		q, _, e := basis.Reduced(r, primary, 60)
		x := api.Component{Q: q, P: reduced(t, r, prime)}
		if e == api.OK && !slices.ContainsFunc(l, func(y api.Component) bool { return areSame(x.P, y.P) }) {
			l = append(l, x)
		}
	}
	for range count {
		prime, left := s.prime(r)
		add(prime, s.primary(r, prime, 2))
		if len(left) > 0 && s.below(3) > 0 { // one that contains it
			prime = append(slices.Clone(prime), minus(r, variable(r, left[s.below(len(left))], 1), number(r, s.below(2))))
			add(prime, s.primary(r, prime, 4))
		}
	}
	for k := len(l) - 1; k >= 0; k-- {
		others := slices.Concat(l[:k], l[k+1:])
		g, ok := metAll(r, qs(others))
		if !ok || isSubset(t, r, g, l[k].Q) {
			l = others
		}
	}
	if len(l) == 0 {
		f = [][]api.Term{variable(r, 0, 2)}
		return f, []api.Component{{Q: f, P: [][]api.Term{variable(r, 0, 1)}}}
	}
	f, ok := metAll(r, qs(l))
	if !ok {
		return l[0].Q, l[:1]
	}
	return f, l
}

// monomials makes an ideal of monomials and of differences of two.
func (s *noise) monomials(r api.Ring) [][]api.Term {
	var f [][]api.Term
	for range 1 + s.below(3) {
		e, other := make([]int, len(r.Names)), make([]int, len(r.Names))
		for i := range e {
			e[i], other[i] = s.below(3), s.below(2)
		}
		p := []api.Term{{C: fraction.Of(2), E: e}}
		if s.below(3) == 0 {
			p = plus(r, p, []api.Term{{C: s.coefficient(), E: other}})
		}
		f = append(f, p)
	}
	return f
}

// sampleIdeal makes polynomials, some of them 0, the same, or multiples of one another.
func (s *noise) sampleIdeal(t *testing.T, r api.Ring) [][]api.Term {
	t.Helper()
	var f [][]api.Term
	switch s.below(5) {
	case 0:
		for range 1 + s.below(2) {
			f = append(f, s.sample(r, 3, 2))
		}
	case 1:
		f = [][]api.Term{times(r, s.sample(r, 2, 2), s.sample(r, 2, 2))}
	case 2:
		f = s.monomials(r)
	default:
		f, _ = s.knownIdeal(t, r, 1+s.below(3))
	}
	if len(f) == 0 {
		return f
	}
	switch s.below(6) {
	case 0:
		f = append(f, nil)
	case 1:
		f = append(f, times(r, f[0], s.sample(r, 2, 2)))
	case 2:
		f = append(f, plus(r, f[0], f[len(f)-1]))
	}
	return s.shuffled(f)
}

// tally counts answers of one kind.
type tally struct {
	answered, fuel, tooLong          int
	several, halves, higher, removed int // components, halves, s beyond 1, components that are removed
}

func (c *tally) add(a reply, way told) {
	switch a.e {
	case api.ErrFuel:
		c.fuel++
	case api.ErrLong:
		c.tooLong++
	case api.OK:
		c.answered++
		c.several += min(1, len(way.found)/2)
		c.halves += min(1, len(way.powers)/2)
		c.removed += min(1, len(way.removed))
		if slices.Max(append(way.powers, 0)) > 1 {
			c.higher++
		}
	}
}

func (c tally) isAtLeast(d tally) bool {
	return c.answered >= d.answered && c.fuel >= d.fuel && c.tooLong >= d.tooLong && c.several >= d.several && c.halves >= d.halves && c.higher >= d.higher && c.removed >= d.removed
}

// Polynomials of all forms, in all rings.
func TestSamples(t *testing.T) {
	t.Parallel()
	for k, call := range calls() {
		t.Run(call, func(t *testing.T) {
			t.Parallel()
			s, c := noise(60+k), tally{}
			for n := 1; n <= 5; n++ {
				for _, r := range rings(n) {
					for range 16 {
						q := question{call, r, s.anyForms(s.sampleIdeal(t, r))}
						c.add(expectWords(t, q, 1000))
					}
				}
			}
			if !c.isAtLeast(tally{answered: 280, fuel: 20, tooLong: 8, several: 75, halves: 50, removed: 2}) {
				t.Errorf("only %+v", c)
			}
		})
	}
}

// Great coefficients, of both signs, and those that are fractions.
func TestGreatNumbers(t *testing.T) {
	t.Parallel()
	s, c := noise(61), tally{}
	for k := range 150 {
		r := rings(1 + k%3)[k%len(rings(1+k%3))]
		var f [][]api.Term
		for range 1 + k%2 {
			p := s.sample(r, 3, 2)
			for i := range p {
				for range k / 10 {
					p[i].C = fraction.Mul(p[i].C, s.unplain(fraction.Of(1+s.below(1<<30))))
				}
			}
			f = append(f, p)
		}
		c.add(expectWords(t, question{calls()[k%5], r, f}, 800))
	}
	if c.answered < 130 || c.several < 15 {
		t.Errorf("only %+v", c)
	}
}

// All pairs of polynomials of degree at most 1 in each of two variables, with
// coefficients from -1 to 1.
func TestSmallPolynomials(t *testing.T) {
	t.Parallel()
	var codes []int
	for code := range 81 {
		codes = append(codes, code)
	}
	polynomial := func(r api.Ring, code int) []api.Term {
		p := number(r, 0)
		for place := range 4 {
			term := times(r, number(r, code%3-1), variable(r, 0, place%2), variable(r, 1, place/2))
			p, code = plus(r, p, term), code/3
		}
		return p
	}
	for part, call := range calls() {
		t.Run(call, func(t *testing.T) {
			t.Parallel()
			for i := range codes {
				for k := range codes {
					if (i+k)%5 == part {
						r := rings(2)[(i+k/4)%4]
						expectWords(t, question{call, r, [][]api.Term{polynomial(r, i), polynomial(r, k)}}, 1000)
					}
				}
			}
		})
	}
}
