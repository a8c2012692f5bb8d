package reduce_test

import (
	"slices"
	"testing"

	"primrose/api"
	"primrose/fraction"
	"primrose/reduce"
)

// expectSpoly expects the S-polynomial of p and q, and its negative for q and p.
func expectSpoly(t *testing.T, r api.Ring, p, q []api.Term, want sum) {
	t.Helper()
	l, e := reduce.Spoly(r, p, q)
	if e != api.OK || !isForm(r, l, want) {
		t.Fatalf("O3: Spoly of %s and %s in %v: %s, %d, not %s", printed(r, p), printed(r, q), r, printed(r, l), e, printed(r, want.terms(r)))
	}
	l, e = reduce.Spoly(r, q, p)
	if e != api.OK || !isForm(r, l, minus(sum{}, want)) {
		t.Fatalf("O3: Spoly of %s and %s in %v: %s, %d, not the negative", printed(r, q), printed(r, p), r, printed(r, l), e)
	}
}

func TestO3Examples(t *testing.T) {
	r := lex(2)
	for _, x := range []struct{ p, q, want string }{
		{"x^2 + y", "x*y + 1", "-x + y^2"},
		// The same leading monomial.
		{"x^2 + y", "x^2 + x", "-x + y"},
		{"x^2 + y", "2*x^2 + x", "-1/2*x + y"},
		{"x^2 + y", "x^2", "y"},
		{"x^2", "-5*x^2", "0"},
		{"5", "-1/3", "0"},
		// No variable in common.
		{"x^2 + y", "y^3 + 1", "-x^2 + y^4"},
		{"x + 1", "y + 1", "-x + y"},
		{"x", "y", "0"},
		{"x + 1", "7", "1"},
		{"2*x - 3", "-3*y^2 + y", "1/3*x*y - 3/2*y^2"},
		// One divides the other one.
		{"x^2*y + 1", "x + y", "-x*y^2 + 1"},
		{"x^2*y + 1", "3*x*y - 2", "2/3*x + 1"},
		// Leading coefficients.
		{"2*x^2 + y", "x*y + 1", "-x + 1/2*y^2"},
		{"x^2 + y", "-2/3*x*y + 1", "3/2*x + y^2"},
		{"4*x^2*y - 6*x", "-6*x*y^2 + 9*y", "0"},
		{"1/2*x^3*y - x", "1/3*x*y^2 - y + 1/7", "3*x^2*y - 3/7*x^2 - 2*x*y"},
		// What follows the leading terms cancels too.
		{"x^2 + x", "x*y + y", "0"},
		{"x^2*y + x*y + y", "x^2 + x + 1", "0"},
		{"x^2*y + x*y + y", "x^2 + x + 2", "-y"},
	} {
		expectSpoly(t, r, parsed(t, r, x.p), parsed(t, r, x.q), sumOf(parsed(t, r, x.want)))
	}
}

// The leading monomials are those of the ring.
func TestO3Orders(t *testing.T) {
	for _, r := range rings(3) {
		want := "y^2 + y*z"
		if r.Order == api.Grevlex || r.First == 2 {
			want = "x^2*z + y^3"
		}
		expectSpoly(t, r, parsed(t, r, "x*z + y^2"), parsed(t, r, "x - y"), sumOf(parsed(t, r, want)))
	}
}

// Of a polynomial with itself, or with a multiple of it.
func TestO3Itself(t *testing.T) {
	s := noise(9)
	for _, r := range allRings() {
		n := len(r.Names)
		for k := range 30 {
			p := s.sample(n, 1+k%5, 4, 1+5*k)
			if len(p) == 0 {
				continue
			}
			l := s.anyForm(r, p)
			expectSpoly(t, r, l, l, sum{})
			expectSpoly(t, r, l, s.anyForm(r, p), sum{})
			expectSpoly(t, r, l, s.anyForm(r, times(p, constant(s.fraction(40)))), sum{})
			expectSpoly(t, r, l, s.anyForm(r, times(p, power(s.below(n), s.below(9)))), sum{})
		}
	}
}

// Lists of terms of all forms, in all rings.
func TestO3Samples(t *testing.T) {
	s, done := noise(10), 0
	for _, r := range allRings() {
		n := len(r.Names)
		for k := range 120 {
			p, q := s.sample(n, 1+k%6, 1+k%7, 1+k), s.sample(n, 1+k/6%5, 1+k%5, 1+k)
			if len(p) == 0 || len(q) == 0 {
				continue
			}
			want, ok := spoly(r, p, q)
			if !ok {
				t.Fatal("too great")
			}
			expectSpoly(t, r, s.anyForm(r, p), s.anyForm(r, q), want)
			done++
		}
	}
	if done < 2000 {
		t.Errorf("only %d were done", done)
	}
}

// A multiple may have an exponent at the limit, but none above it, whether it is
// that of p or of q.
func TestO3Limit(t *testing.T) {
	for _, r := range allRings() {
		for i := 1; i < len(r.Names); i++ {
			f := minus(power(0, 3), power(i, 2)) // whose first term is the greater one in all orders
			for _, n := range []int{limit - 3, limit - 2, limit - 1, limit} {
				g := times(power(0, 1), power(i, n))
				want := minus(sum{}, power(i, n+2))
				if n+2 <= limit {
					expectSpoly(t, r, f.terms(r), g.terms(r), want)
				} else {
					expectSpolyError(t, r, f.terms(r), g.terms(r), api.ErrLong)
				}
			}
		}
	}
	r := lex(2)
	for _, x := range []struct {
		p, q string
		long bool
	}{
		{"x^65536 + y", "y^65536*x + 1", true},
		{"x^65536 + y", "y^65535*x + 1", false},
		{"x^65536", "y^65536*x + 1", false},
		{"x^65536 + 1", "y^65536*x + 1", false},
		{"x^65536*y + 1", "x*y^65536 + 1", false},
		{"x^65536*y^65536 + 1", "x + y", true},
		{"x^65536*y^65536 + 1", "x + 1", false},
		{"x^65536*y^65535 + 1", "x + y", false},
		{"x + 5*y^3 + 1", "y^65534", true},
		{"x + 5*y^3 + 1", "y^65533", false},
		{"x^2 + x*y^2", "x*y^65535 + y^65536", true},
		{"x*y^65535 + y^2", "x + y^2", true},
	} {
		p, q := parsed(t, r, x.p), parsed(t, r, x.q)
		want, ok := spoly(r, sumOf(p), sumOf(q))
		if ok == x.long {
			t.Fatalf("%s and %s: the words say %t", x.p, x.q, ok)
		}
		if x.long {
			expectSpolyError(t, r, p, q, api.ErrLong)
		} else {
			expectSpoly(t, r, p, q, want)
		}
	}
}

// Only the terms of the plain polynomials count.
func TestO3LimitOfPlainPolynomials(t *testing.T) {
	r := lex(2)
	one, minusOne := fraction.Of(1), fraction.Of(-1)
	x, far := api.Term{C: one, E: []int{1, 0}}, []int{0, limit}
	q := []api.Term{{C: one, E: []int{0, 1}}}
	for _, p := range [][]api.Term{
		{x, {C: fraction.Of(0), E: far}},
		{{C: api.Rat{Num: one.Num}, E: far}, x},
		{{C: one, E: far}, x, {C: minusOne, E: far}},
	} {
		expectSpoly(t, r, p, q, sum{})
		expectSpolyError(t, r, append(slices.Clone(p), api.Term{C: one, E: far}), q, api.ErrLong)
	}
}
