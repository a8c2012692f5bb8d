package reduce_test

import (
	"slices"
	"testing"

	"primrose/api"
	"primrose/fraction"
)

// A multiple may have an exponent at the limit, but none above it: in each ring,
// for each two variables.
func TestO1Limit(t *testing.T) {
	for _, r := range allRings() {
		for i := 1; i < len(r.Names); i++ {
			f := minus(power(0, 3), power(i, 2)) // whose first term is the greater one in all orders
			l := [][]api.Term{f.terms(r)}
			fits := times(power(0, 3), power(i, limit-2))
			expectAnswer(t, r, fits.terms(r), l, 1, answer{[]sum{power(i, limit-2)}, power(i, limit), 0, api.OK})
			for _, n := range []int{limit - 1, limit} {
				long := times(power(0, 3), power(i, n))
				expectError(t, r, long.terms(r), l, 1, api.ErrLong)
				expectError(t, r, long.terms(r), l, 0, api.ErrFuel)
				expectError(t, r, plus(long, power(0, 3)).terms(r), l, 9, api.ErrLong)
			}
		}
	}
}

// At a later step, for a later element, and at a later term of it.
func TestO1LimitLater(t *testing.T) {
	for _, r := range rings(2) {
		for _, x := range []struct{ p, l string }{
			{"x^6*y^65532", "x^3 - y^2"},
			{"x^6*y^65533", "x^3 - y^2"},
			{"x^6*y^65531", "x^3 - y^2"},
			{"x^4 + x^3*y^65535", "x^4 - 1; x^3 - y^2"},
			{"x^4 + x^3*y^65534", "x^4 - 1; x^3 - y^2"},
			{"x^3*y^65535", "x^3 - x*y - y - 1/2*y^2 + 5"},
			{"x^3*y^65534", "x^3 - x*y - y - 1/2*y^2 + 5"},
			{"x^3*y^65536", "x^3 - 5 - y"},
			{"x^3*y^65536", "x^3 - 5 - x"},
			{"x^65536*y^65536", "x*y - x"},
			{"x^65536*y^65536", "x^65536*y^65536 - 1"},
			{"x^65536*y^65535", "x^65536 - y"},
			{"x^65536*y^65536", "x^65536 - y"},
			{"x^65536*y^65536", "x^65536*y^65536"},
			{"x^65536*y^65536", "x^65535; y"},
		} {
			p, l := parsed(t, r, x.p), parsedList(t, r, x.l)
			want := answer{e: api.ErrFuel}
			for fuel := range 4 {
				want = divided(r, sumOf(p), sumsOf(l), fuel)
				expectAnswer(t, r, p, l, fuel, want)
			}
		}
	}
	r := lex(2)
	expectError(t, r, parsed(t, r, "x^6*y^65533"), parsedList(t, r, "x^3 - y^2"), 9, api.ErrLong)
	expectError(t, r, parsed(t, r, "x^3*y^65535"), parsedList(t, r, "x^3 - x*y - y - 1/2*y^2 + 5"), 9, api.ErrLong)
}

// Only the terms of the plain element count.
func TestO1LimitOfPlainElements(t *testing.T) {
	one, minusOne := fraction.Of(1), fraction.Of(-1)
	for _, r := range rings(2) {
		lead := api.Term{C: one, E: []int{2, 2}}
		zero := api.Term{C: fraction.Of(0), E: []int{1, 2}}
		hidden := api.Term{C: api.Rat{Num: one.Num}, E: []int{1, 2}}
		back := api.Term{C: minusOne, E: []int{1, 2}}
		p := []api.Term{{C: one, E: []int{limit, limit}}}
		for _, f := range [][]api.Term{{lead, zero}, {lead, hidden}, {hidden, lead}, {lead, {C: one, E: []int{1, 2}}, back}, {back, lead, {C: one, E: []int{1, 2}}}} {
			expectAnswer(t, r, p, [][]api.Term{f}, 1, answer{[]sum{times(power(0, limit-2), power(1, limit-2))}, nil, 0, api.OK})
		}
	}
	// In Lex a later term has greater exponents than the leading one.
	r := lex(2)
	x, far := api.Term{C: one, E: []int{1, 0}}, []int{0, limit}
	p := []api.Term{{C: one, E: []int{1, 1}}}
	for _, f := range [][]api.Term{
		{x, {C: fraction.Of(0), E: far}},
		{x, {C: api.Rat{Num: one.Num}, E: far}},
		{x, {C: one, E: far}, {C: minusOne, E: far}},
		{{C: one, E: far}, x, {C: minusOne, E: far}},
	} {
		expectAnswer(t, r, p, [][]api.Term{f}, 1, answer{[]sum{power(1, 1)}, nil, 0, api.OK})
		expectError(t, r, p, [][]api.Term{append(slices.Clone(f), api.Term{C: one, E: far})}, 1, api.ErrLong)
	}
	// Terms of p that cancel or are 0 need no step.
	l := [][]api.Term{{x, {C: one, E: far}}}
	for _, p := range [][]api.Term{
		{{C: fraction.Of(0), E: []int{1, 1}}},
		{{C: one, E: []int{1, 1}}, {C: minusOne, E: []int{1, 1}}},
		{{C: one, E: []int{0, 9}}, {E: []int{1, 1}}},
	} {
		expectAnswer(t, r, p, l, 0, answer{[]sum{{}}, sumOf(p), 0, api.OK})
	}
}
