package several_test

import (
	"math/big"
	"slices"
	"testing"

	"primrose/api"
	"primrose/several"
)

// expectQuotient expects p divided by q to be want.
func expectQuotient(t *testing.T, r api.Ring, p, q []api.Term, want sum) {
	t.Helper()
	l, ok, e := several.Divide(r, p, q)
	if e != api.OK || !ok || !isForm(r, l, want) {
		t.Fatalf("N1: (%s) / (%s) in %v: %s, %t, %d, not %s", printed(r, p), printed(r, q), r, printed(r, l), ok, e, printed(r, want.terms(r)))
	}
}

func expectNoQuotient(t *testing.T, r api.Ring, p, q []api.Term) {
	t.Helper()
	if l, ok, e := several.Divide(r, p, q); e != api.OK || ok || len(l) != 0 {
		t.Fatalf("N1: (%s) / (%s) in %v: %s, %t, %d", printed(r, p), printed(r, q), r, printed(r, l), ok, e)
	}
}

func TestN1Examples(t *testing.T) {
	for _, x := range []struct{ p, q, want string }{
		{"x^2 - y^2", "x + y", "x - y"},
		{"x^2 - y^2", "y - x", "-x - y"},
		{"x^2 - y^2", "3*x + 3*y", "1/3*x - 1/3*y"},
		// By itself, and by constants.
		{"x^2 - y^2", "x^2 - y^2", "1"},
		{"x^2 - y^2", "2*y^2 - 2*x^2", "-1/2"},
		{"x^2 - y^2", "-2/3", "-3/2*x^2 + 3/2*y^2"},
		{"x^2 - y^2", "1", "x^2 - y^2"},
		{"7", "-3", "-7/3"},
		{"1/2", "1/3", "3/2"},
		// By monomials.
		{"x^3*y^2", "x*y^2", "x^2"},
		{"x^3*y^2 - 3*x*y^5 + x*y^2", "2*x*y^2", "1/2*x^2 - 3/2*y^3 + 1/2"},
		// Coefficients that become fractions.
		{"x", "2*x", "1/2"},
		{"1/2*x^2 + 1/3*x", "x", "1/2*x + 1/3"},
		{"x^2 + x + 1/4", "2*x + 1", "1/2*x + 1/4"},
		{"6*x^2 + 5*x*y + y^2", "1/2*x + 1/4*y", "12*x + 4*y"},
		// What lies between cancels.
		{"x^3 - y^3", "x - y", "x^2 + x*y + y^2"},
		{"x^6 - y^6", "x^2 - x*y + y^2", "x^4 + x^3*y - x*y^3 - y^4"},
		{"x^4 + 4*y^4", "x^2 + 2*x*y + 2*y^2", "x^2 - 2*x*y + 2*y^2"},
		{"(x + y - 1)^5*(x*y + 2)^2", "(x + y - 1)^3*(x*y + 2)", "(x + y - 1)^2*(x*y + 2)"},
		{"x*y", "x*y", "1"},
		// Not at the first term.
		{"x^2 + y^2", "x*y", ""},
		{"y", "x", ""},
		{"1", "x", ""},
		{"x", "x^2", ""},
		{"x + y", "x^2 - y^2", ""},
		{"5", "x + y", ""},
		{"x^2*y + 1", "x*y^2 + 1", ""},
		{"x^3", "y^2", ""},
		// Only at a later one.
		{"x^2 + y^2", "x + y", ""},
		{"x^2 + y", "x + y", ""},
		{"x^2 - y^2 + 1", "x - y", ""},
		{"x^2*y^2 + x*y + y", "x*y", ""},
		{"x^2 - y^2", "x + 2*y", ""},
		{"x^2 - y^2", "2*x + y", ""},
		{"x^3 - y^3", "x + y", ""},
		{"x^2 + x*y", "x^2 + y^2", ""},
		{"x*y + 1", "x", ""},
		{"x*y + x + y + 2", "x + 1", ""},
		{"x^4 + y^4", "x^2 + y^2", ""},
		{"x^5", "x + 1", ""},
		{"x^5*y^5", "x*y - 1", ""},
		{"x^2 + 2*x + 2", "x + 1", ""},
		{"(x + y)^6 + y", "x + y", ""},
		{"(x + y)^6 + 1", "x + y", ""},
	} {
		for _, r := range rings(2) {
			p, q := parsed(t, r, x.p), parsed(t, r, x.q)
			if x.want == "" {
				expectNoQuotient(t, r, p, q)
			} else {
				expectQuotient(t, r, p, q, sumOf(parsed(t, r, x.want)))
			}
		}
	}
}

// All pairs of small polynomials.
func TestN1SmallPolynomials(t *testing.T) {
	r := api.Ring{Names: letters(2), Order: api.Grevlex}
	all := allBilinear(1)
	for _, q := range all {
		divisor := q.terms(r)
		for _, p := range all {
			if want, ok := quotient(p, q); ok {
				expectQuotient(t, r, p.terms(r), divisor, want)
			} else {
				expectNoQuotient(t, r, p.terms(r), divisor)
			}
			expectQuotient(t, r, times(p, q).terms(r), divisor, p)
		}
	}
}

// A multiple of q with something added whose degree in a variable is less than q's
// is no multiple.
func TestN1Products(t *testing.T) {
	s := noise(2)
	for _, r := range allRings() {
		n := len(r.Names)
		for k := range 60 {
			p := scaled(s.sample(n, 1+k%7, 4, 5), s.fraction(1+k))
			q := scaled(s.sample(n, 1+k/7, 4, 5), s.fraction(1+k))
			product := times(p, q)
			expectQuotient(t, r, s.loose(r, product), s.loose(r, q), p)
			expectQuotient(t, r, s.loose(r, product), s.loose(r, p), q)
			i := s.below(n)
			if high := degree(q, i); high > 0 {
				rest := s.sample(n, 2, high, 2)
				expectNoQuotient(t, r, s.loose(r, plus(product, rest)), s.loose(r, q))
				expectNoQuotient(t, r, s.loose(r, rest), s.loose(r, q))
			}
		}
	}
}

func TestN1GreatCoefficients(t *testing.T) {
	s := noise(3)
	for n := range 60 {
		r := s.aRing(3)
		p, q := constant(s.fraction(10*n+1)), constant(s.fraction(10*n+1))
		for i := range 3 {
			p = plus(p, scaled(power(i, 1+n%3), s.fraction(20*n+1)))
			q = plus(q, scaled(power(i, 1+n%2), s.fraction(20*n+1)))
		}
		expectQuotient(t, r, s.loose(r, times(p, q)), s.loose(r, q), p)
		expectNoQuotient(t, r, s.loose(r, plus(times(p, q), constant(new(big.Rat).SetFrac(big.NewInt(1), s.great(200))))), s.loose(r, q))
	}
}

// An exponent at the limit is no greater one.
func TestN1Limit(t *testing.T) {
	for _, r := range allRings() {
		n := len(r.Names)
		high := slices.Repeat([]int{limit}, n)
		all := []api.Term{{C: toRat(rat(3, 2)), E: high}}
		expectQuotient(t, r, all, all, constant(rat(1, 1)))
		expectNoQuotient(t, r, []api.Term{{C: toRat(rat(1, 1)), E: make([]int, n)}}, all)
		for i := range n {
			x, top := power(i, 1), power(i, limit)
			below := sumOf(all)
			for k := range below {
				delete(below, k)
				k[i]--
				below[k] = rat(3, 2)
				break
			}
			expectQuotient(t, r, all, x.terms(r), below)
			expectQuotient(t, r, all, below.terms(r), x)
			expectNoQuotient(t, r, below.terms(r), all)
			factor := plus(power(n-1-i, 1), constant(rat(-2, 1)))
			if n-1-i != i {
				expectQuotient(t, r, times(top, factor).terms(r), factor.terms(r), top)
				expectQuotient(t, r, times(top, factor).terms(r), top.terms(r), factor)
			}
			expectNoQuotient(t, r, plus(top, constant(rat(1, 1))).terms(r), x.terms(r))
			expectNoQuotient(t, r, top.terms(r), plus(x, constant(rat(1, 1))).terms(r))
		}
	}
}

// Of many terms.
func TestN1LongQuotients(t *testing.T) {
	for _, r := range rings(2) {
		top := plus(power(0, limit), constant(rat(-1, 1)))
		x := plus(power(0, 1), constant(rat(-1, 1)))
		l, ok, e := several.Divide(r, top.terms(r), x.terms(r))
		if e != api.OK || !ok || len(l) != limit {
			t.Fatalf("N1: x^%d - 1 by x - 1: %d terms, %t, %d", limit, len(l), ok, e)
		}
		for k, term := range l {
			if term.E[0] != limit-1-k || term.E[1] != 0 || !isRat(term.C, rat(1, 1)) {
				t.Fatalf("N1: x^%d - 1 by x - 1: term %d is %v", limit, k, term)
			}
		}
		back, ok, e := several.Divide(r, top.terms(r), l)
		if e != api.OK || !ok || !isForm(r, back, x) {
			t.Errorf("N1: and by that: %s, %t, %d", printed(r, back), ok, e)
		}
		expectNoQuotient(t, r, plus(top, constant(rat(2, 1))).terms(r), x.terms(r))
	}
}

// What could go on for very long, with ever more terms, ends soon.
func TestN1NoLongDivisions(t *testing.T) {
	for _, r := range rings(2) {
		for _, x := range []struct{ p, q string }{
			{"x^65536 + 1", "x - y - 1"},
			{"x^65536*y + 1", "x - y^2 - 1"},
			{"x^65536 + y", "x + 1 - y"},
			{"x^65536", "2*x + 1"},
			{"y^65536 + x^3", "y - x - 1"},
			{"x^65536*y^65536", "x*y - x - y"},
			{"x^200 + y^200", "x - y - 1"},
		} {
			expectNoQuotient(t, r, parsed(t, r, x.p), parsed(t, r, x.q))
		}
	}
}
