package basis_test

import (
	"slices"
	"testing"

	"primrose/api"
	"primrose/basis"
)

// expectIs holds Is against an answer.
func expectIs(t *testing.T, r api.Ring, f [][]api.Term, fuel int, want answer) {
	t.Helper()
	is, left, e := basis.Is(r, f, fuel)
	if is != want.is || left != want.left || e != want.e {
		t.Fatalf("P2: Is of %s in %v with %d: %t, %d, %d, not %t, %d, %d", printedList(r, f), r, fuel, is, left, e, want.is, want.left, want.e)
	}
}

// expectIsReckoned holds Is against the words of the chapter, and returns what it
// answers.
func expectIsReckoned(t *testing.T, r api.Ring, f [][]api.Term, fuel int) answer {
	t.Helper()
	want := isBasis(r, sumsOf(f), fuel)
	expectIs(t, r, f, fuel, want)
	return want
}

// question is whether polynomials are a basis, and how many steps that takes.
type question struct {
	f     string
	is    bool
	steps int
}

func expectQuestions(t *testing.T, r api.Ring, all []question) {
	t.Helper()
	for _, x := range all {
		f := parsedList(t, r, x.f)
		for fuel := range x.steps {
			expectIs(t, r, f, fuel, answer{e: api.ErrFuel})
			expectIsReckoned(t, r, f, fuel)
		}
		for _, left := range []int{0, 1, 2, 500, api.MaxFuel - x.steps} {
			expectIs(t, r, f, x.steps+left, answer{is: x.is, left: left})
		}
		expectIsReckoned(t, r, f, x.steps)
	}
}

func TestP2Examples(t *testing.T) {
	expectQuestions(t, lex(2), []question{
		{"x^2 + y; x*y + 1", false, 1},
		// Nothing, or one element, has no pair.
		{"", true, 0}, {"0", true, 0}, {"0; 0; 0", true, 0}, {"x", true, 0}, {"-2*x^2*y - 1/3", true, 0}, {"0; x^2 - y; 0", true, 0}, {"7", true, 0},
		// Reduced ones.
		{"y^2 - 1; x - y", true, 3}, {"x; y", true, 1},
		// Not reduced: in another order, with other coefficients, with elements that
		// are not needed, and with those that are not divided.
		{"x - y; y^2 - 1", true, 3}, {"-2*x + 2*y; 3*y^2 - 3", true, 3},
		{"x*y - 1; y^2 - 1; x - y", true, 7},
		{"x; x", true, 1}, {"x; 3*x; -x", true, 3}, {"x; x^2*y; x*y^3", true, 3}, {"x - y; y", true, 2}, {"1; x", true, 1}, {"2; x + 1", true, 2},
		// No basis at the first pair, and at later ones.
		{"x + 1; x", false, 1}, {"x*y - 1; y^2 - 1", false, 1}, {"x*y - 1; x*y", false, 1},
		{"y^3; y^2; y^2 + 1", false, 2}, {"x; y^2; y^2 + y", false, 4},
		{"x; y; x*y + 1", false, 2},
		{"y; x*y^2; x^2 - 1; x^3", false, 8},
	})
}

// In contrast to Reduced there is no exception for pairs whose leading monomials have
// no variable in common: what their divisions take counts.
func TestP2NothingInCommon(t *testing.T) {
	for _, r := range rings(2) {
		expectQuestions(t, r, []question{
			{"x + 1; y + 1", true, 3},
			{"2*x + 1; 3*y - 1", true, 3},
			{"x^2 - 1; y^2 - 1", true, 3},
			{"x; y", true, 1}, {"x^2; y - 1", true, 2},
			{"3; x^2 - 2", true, 2}, {"x - 2; 3; y", true, 5},
		})
	}
	// And so does what makes them too great.
	r := ring("xy", api.Grlex)
	f := parsedList(t, r, "x^65536 + x; y^65536 + y")
	expectReduced(t, r, f, 1, answer{g: []sum{sumOf(f[1]), sumOf(f[0])}})
	expectIsReckoned(t, r, f, 9)
	r = lex(3)
	f = parsedList(t, r, "x + z^40000; y^2 + z^30000")
	expectReduced(t, r, f, 1, answer{g: []sum{sumOf(f[1]), sumOf(f[0])}})
	expectIs(t, r, f, 0, answer{e: api.ErrFuel})
	expectIs(t, r, f, 1, answer{e: api.ErrFuel})
	expectIs(t, r, f, 2, answer{e: api.ErrLong})
}

// Zeros in all forms do not count, wherever they stand.
func TestP2Zeros(t *testing.T) {
	for _, r := range allRings() {
		n := len(r.Names)
		p, q := minus(power(0, 2), constant(rat(1, 1))), minus(power(0, 1), constant(rat(1, 1)))
		f, h := p.terms(r), q.terms(r)
		want := isBasis(r, []sum{p, q}, 50)
		if !want.is {
			t.Errorf("P2: the words say %v", want)
		}
		for _, zero := range zeros(n) {
			for _, l := range [][][]api.Term{{zero, f, h}, {f, zero, h}, {f, h, zero}, {zero, zero, f, zero, zero, h, zero}} {
				expectIs(t, r, l, 50, want)
			}
			for _, fuel := range []int{0, 3, api.MaxFuel} {
				expectIs(t, r, [][]api.Term{zero, h, zero}, fuel, answer{is: true, left: fuel})
				expectIs(t, r, [][]api.Term{zero, zero, zero}, fuel, answer{is: true, left: fuel})
				expectIs(t, r, nil, fuel, answer{is: true, left: fuel})
				expectIs(t, r, [][]api.Term{}, fuel, answer{is: true, left: fuel})
			}
		}
	}
}

// Polynomials of all forms, in all rings: bases, reduced and not, and others.
func TestP2Samples(t *testing.T) {
	s, bases, others := noise(10), 0, 0
	for _, r := range allRings() {
		n := len(r.Names)
		for k := range 40 {
			f := s.samples(2+k%3, n, 3, 3, 1+k%5)
			if a := reduced(r, f, 80); a.e == api.OK {
				f = s.someBasis(r, f, a.g)
			}
			switch a := expectIsReckoned(t, r, s.anyForms(r, f), 300); {
			case a.e != api.OK:
			case a.is:
				bases++
			default:
				others++
			}
		}
	}
	if bases < 500 || others < 100 {
		t.Errorf("only %d bases, and %d others", bases, others)
	}
}

// someBasis is f, or its basis g; or that times constants, with multiples of
// elements, and in another order; or that without one element.
func (s *noise) someBasis(r api.Ring, f, g []sum) []sum {
	if len(g) == 0 {
		return f
	}
	g = slices.Clone(g)
	switch s.below(4) {
	case 0:
		return f
	case 1:
		return g
	case 2:
		k := s.below(len(g))
		g = slices.Delete(g, k, k+1)
	}
	for i := range g {
		g[i] = times(g[i], constant(s.fraction(9)))
	}
	for _, p := range slices.Clone(g) {
		if s.below(3) == 0 {
			g = append(g, times(p, s.sample(len(r.Names), 2, 2, 3)))
		}
	}
	return s.shuffled(g)
}

// The false that the first failing pair is answered with leaves what the pairs before
// it leave, whatever would come behind it.
func TestP2FirstFalse(t *testing.T) {
	for _, r := range rings(3) {
		expectQuestions(t, r, []question{
			{"x; x; x + 1", false, 2},
			{"x; x + 1; x; x", false, 1},
			{"x^3; x^2; x; y; x*z + 2; z", false, 11},
		})
	}
	r := lex(3)
	// What would be too great behind it is not looked at.
	f := parsedList(t, r, "x + 1; x; z^2 + 1; x^2 + z^65536; x*z + 1")
	for fuel, want := range []answer{{e: api.ErrFuel}, {}, {left: 1}} {
		expectIs(t, r, f, fuel, want)
	}
}

// All pairs of polynomials of degree at most 1 in each of two variables, with
// coefficients from -1 to 1.
func TestP2SmallPolynomials(t *testing.T) {
	var all []sum
	for code := range 81 {
		p, rest := sum{}, code
		for place := range 4 {
			p.add(key{place % 2, place / 2}, rat(int64(rest%3-1), 1))
			rest /= 3
		}
		all = append(all, p)
	}
	for i, p := range all {
		r := rings(2)[i%4]
		for k, q := range all {
			f := []sum{p, q, all[(5*i+k)%81]}[:2+k%2]
			expectIsReckoned(t, r, termsOf(r, f), 200)
		}
	}
}
