package several_test

import (
	"math"
	"slices"
	"testing"

	"primrose/api"
	"primrose/fraction"
	"primrose/several"
)

// wrongRings are rings that are not valid; but for the first two and the last
// one, terms with two exponents fit.
func wrongRings() []api.Ring {
	return []api.Ring{
		{},
		{Names: []string{"x"}, Order: api.Block, First: 1},
		{Names: []string{"x", "x"}},
		{Names: []string{"x", ""}},
		{Names: []string{"1", "y"}},
		{Names: []string{"x", "y"}, Order: 4},
		{Names: []string{"x", "y"}, Order: -1},
		{Names: []string{"x", "y"}, Order: api.Block},
		{Names: []string{"x", "y"}, Order: api.Block, First: 2},
		{Names: []string{"x", "y"}, Order: api.Lex, First: 1},
		{Names: []string{"a", "b", "c", "d", "e", "f", "g"}},
	}
}

// wrongExponents are lists that are no monomials of n variables.
func wrongExponents(n int) [][]int {
	all := [][]int{nil, {}, make([]int, n-1), make([]int, n+1), slices.Repeat([]int{1}, n+1)}
	for i := range n {
		for _, x := range []int{-1, limit + 1, math.MinInt, math.MaxInt, 1 << 32, -limit} {
			e := make([]int, n)
			e[i] = x
			all = append(all, e)
		}
	}
	return all
}

// wrongPolynomials have a wrong monomial at each place, beside any coefficient.
func wrongPolynomials(n int) [][]api.Term {
	var all [][]api.Term
	right := api.Term{C: fraction.Of(3), E: make([]int, n)}
	for _, e := range wrongExponents(n) {
		for _, c := range []api.Rat{fraction.Of(1), fraction.Of(0), {}, {Num: api.Int{Mag: []uint32{5}}, Den: []uint32{0}}} {
			wrong := api.Term{C: c, E: e}
			cancels := api.Term{C: fraction.Neg(c), E: e}
			all = append(all, []api.Term{wrong}, []api.Term{right, wrong}, []api.Term{wrong, right}, []api.Term{right, wrong, cancels})
		}
	}
	return all
}

// zeros are lists of terms whose sum is 0.
func zeros(n int) [][]api.Term {
	one := make([]int, n)
	high := slices.Repeat([]int{limit}, n)
	return [][]api.Term{
		nil,
		{},
		{{C: fraction.Of(0), E: one}},
		{{E: high}},
		{{C: api.Rat{Num: api.Int{Neg: true, Mag: []uint32{7}}, Den: []uint32{0, 0}}, E: one}},
		{{C: fraction.Of(2), E: high}, {C: fraction.Of(-2), E: high}},
		{{C: fraction.Of(2), E: one}, {C: fraction.Of(2), E: high}, {C: fraction.Of(-2), E: one}, {C: fraction.Of(-2), E: high}},
	}
}

func expectDivideError(t *testing.T, r api.Ring, p, q []api.Term, want api.Errno) {
	t.Helper()
	if l, ok, e := several.Divide(r, p, q); e != want || ok || len(l) != 0 {
		t.Errorf("N1: Divide of %v by %v in %v: %v, %t, %d, not %d", p, q, r, l, ok, e, want)
	}
}

// expectOneErrors expects the error of both calls that take one polynomial.
func expectOneErrors(t *testing.T, r api.Ring, p []api.Term, want api.Errno) {
	t.Helper()
	if l, by, e := several.Primitive(r, p); e != want || len(l) != 0 || !isZeroRat(by) {
		t.Errorf("N2: Primitive of %v in %v: %v, %v, %d, not %d", p, r, l, by, e, want)
	}
	if c, l, e := several.Factor(r, p); e != want || !isZeroRat(c) || len(l) != 0 {
		t.Errorf("N3: Factor of %v in %v: %v, %v, %d, not %d", p, r, c, l, e, want)
	}
}

// The ring comes first, whatever the polynomials are.
func TestRings(t *testing.T) {
	good := []api.Term{{C: fraction.Of(1), E: []int{0, 1}}}
	polynomials := append(append(zeros(2), wrongPolynomials(2)...), good)
	for _, r := range wrongRings() {
		for _, p := range polynomials {
			expectOneErrors(t, r, p, api.ErrRing)
			expectDivideError(t, r, p, good, api.ErrRing)
			expectDivideError(t, r, good, p, api.ErrRing)
			expectDivideError(t, r, nil, p, api.ErrRing)
			expectDivideError(t, r, p, nil, api.ErrRing)
			expectDivideError(t, r, p, p, api.ErrRing)
		}
	}
}

// A wrong monomial comes before what is 0, and before what is too great.
func TestPolynomials(t *testing.T) {
	for _, r := range allRings() {
		n := len(r.Names)
		great := api.Term{C: fraction.Of(1), E: slices.Repeat([]int{limit}, n)}
		for _, p := range wrongPolynomials(n) {
			expectOneErrors(t, r, p, api.ErrPoly)
			expectOneErrors(t, r, append([]api.Term{great}, p...), api.ErrPoly)
			for _, q := range append(zeros(n), []api.Term{great}, p) {
				expectDivideError(t, r, p, q, api.ErrPoly)
				expectDivideError(t, r, q, p, api.ErrPoly)
			}
		}
	}
}

func TestZeros(t *testing.T) {
	for _, r := range allRings() {
		n := len(r.Names)
		one := []api.Term{{C: fraction.Of(1), E: make([]int, n)}}
		great := []api.Term{{C: fraction.Of(1), E: slices.Repeat([]int{limit}, n)}}
		for _, zero := range zeros(n) {
			expectOneErrors(t, r, zero, api.ErrZero)
			for _, p := range append(zeros(n), one, great) {
				expectDivideError(t, r, p, zero, api.ErrZero)
			}
			for _, q := range [][]api.Term{one, great, append(one, great...)} {
				if l, ok, e := several.Divide(r, zero, q); e != api.OK || !ok || len(l) != 0 {
					t.Errorf("N1: Divide of 0 by %v: %v, %t, %d", q, l, ok, e)
				}
			}
		}
	}
}
