package basis_test

import (
	"math/big"
	"slices"
	"strings"
	"testing"

	"primrose/api"
	"primrose/basis"
)

// expectReduced holds Reduced against an answer.
func expectReduced(t *testing.T, r api.Ring, f [][]api.Term, fuel int, want answer) {
	t.Helper()
	g, left, e := basis.Reduced(r, f, fuel)
	if e != want.e || left != want.left || !areForms(r, g, want.g) {
		t.Fatalf("P1: Reduced of %s in %v with %d: %s, %d, %d, not %s, %d, %d", printedList(r, f), r, fuel,
			printedList(r, g), left, e, printedList(r, termsOf(r, want.g)), want.left, want.e)
	}
}

// expectReckoned holds Reduced against the words of the chapter, and returns what it
// answers.
func expectReckoned(t *testing.T, r api.Ring, f [][]api.Term, fuel int) answer {
	t.Helper()
	want := reduced(r, sumsOf(f), fuel)
	expectReduced(t, r, f, fuel, want)
	return want
}

// ideal is one whose reduced basis is known, and how many steps it takes.
type ideal struct {
	f, g  string
	steps int
}

// expectIdeals holds ideals in a ring against their bases.
func expectIdeals(t *testing.T, r api.Ring, all []ideal) {
	t.Helper()
	for _, x := range all {
		f, g := parsedList(t, r, x.f), sumsOf(parsedList(t, r, x.g))
		expectReduced(t, r, f, 100, answer{g: g, left: 100 - x.steps})
		expectReduced(t, r, f, x.steps, answer{g: g})
		if x.steps > 0 {
			expectReduced(t, r, f, x.steps-1, answer{e: api.ErrFuel})
		}
		if a := expectReckoned(t, r, f, api.MaxFuel); api.MaxFuel-a.left != x.steps {
			t.Errorf("P1: %v in %v takes %d steps", x, r, api.MaxFuel-a.left)
		}
	}
}

func TestP1Examples(t *testing.T) {
	expectIdeals(t, lex(2), []ideal{
		{"x*y - 1; y^2 - 1", "y^2 - 1; x - y", 4},
		{"y^2 - 1; x*y - 1", "y^2 - 1; x - y", 4},
		{"x^2 + y^2 - 1; x - y", "y^2 - 1/2; x - y", 4},
		{"x^2; x*y", "x*y; x^2", 1},
		{"x + y^3; y - 2", "y - 2; x + 8", 4},
	})
	expectIdeals(t, lex(3), []ideal{
		// A system of linear equations.
		{"x + y + z - 6; x - y + 2*z - 5; 3*x + y - z - 2", "z - 3; y - 2; x - 1", 16},
		{"x*y - z; z - 1; x - 2", "z - 1; y - 1/2; x - 2", 9},
	})
}

// Without a polynomial other than 0 the basis is empty, and no step is taken.
func TestP1Empty(t *testing.T) {
	for _, r := range allRings() {
		zero := zeros(len(r.Names))
		for _, fuel := range []int{0, 1, 77, api.MaxFuel} {
			for _, f := range append([][][]api.Term{nil, {}, zero}, single(zero)...) {
				expectReduced(t, r, f, fuel, answer{left: fuel})
			}
		}
	}
}

// single makes lists of one polynomial each.
func single(l [][]api.Term) [][][]api.Term {
	var all [][][]api.Term
	for _, p := range l {
		all = append(all, [][]api.Term{p})
	}
	return all
}

// One polynomial becomes plain and monic, without a step.
func TestP1One(t *testing.T) {
	s := noise(2)
	for _, r := range allRings() {
		for k := range 40 {
			p := s.sample(len(r.Names), 1+k%7, 4, 1+5*k)
			if len(p) == 0 {
				continue
			}
			for _, fuel := range []int{0, k, api.MaxFuel} {
				expectReduced(t, r, [][]api.Term{s.anyForm(r, p)}, fuel, answer{g: []sum{monic(r, p)}, left: fuel})
			}
		}
	}
	expectIdeals(t, lex(2), []ideal{
		{"x", "x", 0}, {"-3/2*x^2*y + 6", "x^2*y - 4", 0}, {"y - 5*x", "x - 1/5*y", 0},
		{"y^65536*x^65536", "x^65536*y^65536", 0}, {"7*x^65536 - 2*y^65536", "x^65536 - 2/7*y^65536", 0},
	})
}

// With a constant the ideal is the whole ring. The leading monomial 1 has no
// variable in common with any other.
func TestP1Constants(t *testing.T) {
	for _, r := range rings(2) {
		expectIdeals(t, r, []ideal{
			{"1", "1", 0}, {"-5", "1", 0}, {"2/3", "1", 0},
			{"1; 1", "1", 1}, {"3; -1/2; 7", "1", 3},
			{"2*x; 3", "1", 1}, {"3; 2*x", "1", 1},
			{"x; 3; y", "1", 3}, {"0; x*y - 1; 0; 3; x^2 - y; 0", "1", 5},
			// What is constant may only be found.
			{"x + 1; x - 1", "1", 3}, {"x*y - 1; x; y", "1", 7}, {"x^2 + 1; x^2", "1", 3},
		})
	}
}

// Equal elements, and multiples by constants: each pair is a step, of which nothing
// remains.
func TestP1EqualElements(t *testing.T) {
	for _, r := range rings(2) {
		expectIdeals(t, r, []ideal{
			{"x; x", "x", 1}, {"x; -2*x; 1/3*x", "x", 3}, {"x; x; x; x; x", "x", 10},
			{"2*x*y - 4; x*y - 2; 2 - x*y", "x*y - 2", 3},
			{"x; y; x; y", "y; x", 6},
		})
	}
	expectIdeals(t, lex(2), []ideal{{"x*y - 1; y^2 - 1; 3*x*y - 3", "y^2 - 1; x - y", 9}})
}

// Multiples of other elements leave nothing.
func TestP1Multiples(t *testing.T) {
	for _, r := range rings(2) {
		expectIdeals(t, r, []ideal{
			{"x; x^2; x*y", "x", 3}, {"x^2; x; x*y", "x", 3},
			{"x^3*y - x*y; x*y; y", "y", 5},
		})
	}
}

// Zeros in all forms do not count, wherever they stand.
func TestP1Zeros(t *testing.T) {
	for _, r := range allRings() {
		n := len(r.Names)
		p, q := minus(power(0, 2), constant(rat(1, 1))), minus(power(0, 1), constant(rat(1, 1)))
		want := reduced(r, []sum{p, q}, 50)
		f, h := p.terms(r), q.terms(r)
		for _, zero := range zeros(n) {
			for _, l := range [][][]api.Term{{zero, f, h}, {f, zero, h}, {f, h, zero}, {zero, zero, f, zero, zero, h, zero}} {
				expectReduced(t, r, l, 50, want)
			}
			expectReduced(t, r, [][]api.Term{zero, h, zero}, 0, answer{g: []sum{q}})
			expectReduced(t, r, [][]api.Term{zero, zero, zero}, 3, answer{left: 3})
		}
	}
}

// power is the variable i to the power of n.
func power(i, n int) sum {
	var k key
	k[i] = n
	return sum{k: rat(1, 1)}
}

// The same ideal has another basis in another order.
func TestP1Orders(t *testing.T) {
	names := letters(3)
	for _, x := range []struct {
		order, first int
		g            string
	}{
		{api.Lex, 0, "y^3 - z^2; x*z - y^2; x*y - z; x^2 - y"},
		{api.Grlex, 0, "x*z - y^2; x*y - z; x^2 - y; y^3 - z^2"},
		{api.Grevlex, 0, "y^2 - x*z; x*y - z; x^2 - y"},
		{api.Block, 1, "y^3 - z^2; x*z - y^2; x*y - z; x^2 - y"},
		{api.Block, 2, "y^2 - x*z; x*y - z; x^2 - y"},
	} {
		r := api.Ring{Names: names, Order: x.order, First: x.first}
		f := parsedList(t, r, "x^2 - y; x^3 - z")
		if a := expectReckoned(t, r, f, 100); a.e != api.OK || !areForms(r, parsedList(t, r, x.g), a.g) {
			t.Errorf("P1: in %v: %s, %d", r, printedList(r, termsOf(r, a.g)), a.e)
		}
	}
}

// Ideals whose bases are known, with steps as the chapter's words have them.
func TestP1Known(t *testing.T) {
	for _, x := range []struct {
		variables, order int
		f, g             string
	}{
		{2, api.Grlex, "x^3 - 2*x*y; x^2*y - 2*y^2 + x", "y^2 - 1/2*x; x*y; x^2"},
		{3, api.Lex, "x^2 + y^2 + z^2 - 1; x^2 + z^2 - y; x - z", "z^4 + 1/2*z^2 - 1/4; y - 2*z^2; x - z"},
		{3, api.Lex, "x + y + z; x*y + y*z + z*x; x*y*z - 1", "z^3 - 1; y^2 + y*z + z^2; x + y + z"},
		{3, api.Grevlex, "x + y + z; x*y + y*z + z*x; x*y*z - 1", "x + y + z; y^2 + y*z + z^2; z^3 - 1"},
		{1, api.Lex, "x^6 - 1; x^4 - 1", "x^2 - 1"},
		{1, api.Grevlex, "2*x^3 - 2; 3*x^2 - 3; x^5 - 1", "x - 1"},
		{1, api.Grlex, "x^6 - 1; x^4 - 1; x^2 + 1", "1"},
		{3, api.Lex, "x*y; x*z; y*z; x^2*y; x*y*z", "y*z; x*z; x*y"},
		{6, api.Grevlex, "x*v - y*u; x*w - z*u; y*w - z*v", "z*v - y*w; z*u - x*w; y*u - x*v"},
	} {
		r := api.Ring{Names: letters(x.variables), Order: x.order}
		if a := expectReckoned(t, r, parsedList(t, r, x.f), 1000); a.e != api.OK || !areForms(r, parsedList(t, r, x.g), a.g) {
			t.Errorf("P1: %s: %s, %d", x.f, printedList(r, termsOf(r, a.g)), a.e)
		}
	}
}

// The least common divisor of polynomials in one variable generates their ideal.
func TestP1OneVariable(t *testing.T) {
	s := noise(3)
	for _, r := range rings(1) {
		for k := range 60 {
			d := monic(r, plus(power(0, 1+k%3), times(s.sample(1, 2, 1+k%3, 5), constant(rat(1, 7)))))
			f := []sum{d}
			for range 1 + k%3 {
				f = append(f, times(d, s.sample(1, 3, 4, 5)))
			}
			a := expectReckoned(t, r, s.anyForms(r, s.shuffled(f)), 5000)
			if a.e != api.OK || len(a.g) != 1 || !isSame(a.g[0], d) {
				t.Errorf("P1: the common divisor of %v: %v", f, a)
			}
		}
	}
}

// shuffled is the same polynomials in another order.
func (s *noise) shuffled(f []sum) []sum {
	f = slices.Clone(f)
	for k := range f {
		other := s.below(k + 1)
		f[k], f[other] = f[other], f[k]
	}
	return f
}

// Monomials alone: nothing ever remains, so that there is a step for each pair, and
// the least ones stay.
func TestP1Monomials(t *testing.T) {
	s := noise(4)
	for _, r := range allRings() {
		n := len(r.Names)
		for k := range 20 {
			var f []sum
			for range k % 8 {
				f = append(f, s.sample(n, 1, 4, 20))
			}
			f = slices.DeleteFunc(f, func(p sum) bool { return len(p) == 0 })
			a := expectReckoned(t, r, s.anyForms(r, f), 100)
			if steps := len(f) * (len(f) - 1) / 2; a.e != api.OK || a.left != 100-steps {
				t.Errorf("P1: %d monomials leave %d, %d", len(f), a.left, a.e)
			}
		}
	}
}

// Polynomials of all forms, in all rings.
func TestP1Samples(t *testing.T) {
	s, finished, steps := noise(5), 0, 0
	for _, r := range allRings() {
		n := len(r.Names)
		for k := range 60 {
			f := s.samples(2+k%4, n, 3, 3, 1+k%5)
			a := expectReckoned(t, r, s.anyForms(r, f), 150)
			if a.e == api.OK {
				finished++
				steps += 150 - a.left
			}
		}
	}
	if finished < 1000 || steps < 20*finished {
		t.Errorf("only %d bases with %d steps were found", finished, steps)
	}
}

// All pairs of polynomials of degree at most 1 in each of two variables, with
// coefficients from -1 to 1.
func TestP1SmallPolynomials(t *testing.T) {
	var all []sum
	for code := range 81 {
		p, rest := sum{}, code
		for place := range 4 {
			p.add(key{place % 2, place / 2}, rat(int64(rest%3-1), 1))
			rest /= 3
		}
		all = append(all, p)
	}
	for i, p := range all {
		r := rings(2)[i%4]
		for k, q := range all {
			f := []sum{p, q, all[(5*i+k)%81]}[:2+k%2]
			expectReckoned(t, r, termsOf(r, f), 200)
		}
	}
}

// Great coefficients, of both signs, and those that are fractions.
func TestP1GreatNumbers(t *testing.T) {
	s, finished := noise(6), 0
	for k := range 80 {
		r := rings(1 + k%3)[k%3]
		f := s.samples(2+k%2, len(r.Names), 3, 3, 10+8*k)
		if a := expectReckoned(t, r, s.anyForms(r, f), 100); a.e == api.OK && len(a.g) > 1 {
			finished++
		}
	}
	if finished < 20 {
		t.Errorf("only %d bases were found", finished)
	}
}

// An element times a constant is the same for all that follows.
func TestP1LeadingCoefficients(t *testing.T) {
	s := noise(7)
	for _, r := range allRings() {
		for range 10 {
			f := s.samples(3, len(r.Names), 3, 3, 3)
			want := reduced(r, f, 150)
			for _, c := range []*big.Rat{rat(-1, 1), rat(6, 1), rat(-3, 7), s.fraction(200)} {
				for i := range f {
					f[i] = times(f[i], constant(c))
				}
				expectReduced(t, r, termsOf(r, f), 150, want)
			}
		}
	}
}

// Elements may be parts of one list.
func TestP1SameLists(t *testing.T) {
	for _, r := range rings(2) {
		p := parsed(t, r, "2*x*y + 3*x + 1")
		expectReckoned(t, r, [][]api.Term{p, p, p}, 50)
		expectReckoned(t, r, [][]api.Term{p[1:], p[:2], p}, 50)
		expectReckoned(t, r, [][]api.Term{p[:1], p[1:2], p[2:]}, 50)
	}
}

// The names of the variables do not matter.
func TestP1Names(t *testing.T) {
	r := lex(2)
	f := parsedList(t, r, "x*y - 1; y^2 - 1")
	want := reduced(r, sumsOf(f), 9)
	expectReduced(t, api.Ring{Names: []string{"Z9", "abcdefgh"}, Order: api.Lex}, f, 9, want)
	expectReduced(t, api.Ring{Names: strings.Split("yx", ""), Order: api.Lex}, f, 9, want)
}
