package reduce_test

import (
	"math"
	"slices"
	"testing"

	"primrose/api"
	"primrose/fraction"
	"primrose/reduce"
)

// wrongRings are rings that are not valid; but for the first two and the last
// one, terms with two exponents fit.
func wrongRings() []api.Ring {
	return []api.Ring{
		{},
		{Names: []string{"x"}, Order: api.Block, First: 1},
		{Names: []string{"x", "x"}},
		{Names: []string{"x", ""}},
		{Names: []string{"1", "y"}},
		{Names: []string{"x", "y"}, Order: 4},
		{Names: []string{"x", "y"}, Order: -1},
		{Names: []string{"x", "y"}, Order: api.Block},
		{Names: []string{"x", "y"}, Order: api.Block, First: 2},
		{Names: []string{"x", "y"}, Order: api.Lex, First: 1},
		{Names: []string{"a", "b", "c", "d", "e", "f", "g"}},
	}
}

// wrongExponents are lists that are no monomials of n variables.
func wrongExponents(n int) [][]int {
	all := [][]int{nil, {}, make([]int, n-1), make([]int, n+1), slices.Repeat([]int{1}, n+1)}
	for i := range n {
		for _, x := range []int{-1, limit + 1, math.MinInt, math.MaxInt, 1 << 32, -limit} {
			e := make([]int, n)
			e[i] = x
			all = append(all, e)
		}
	}
	return all
}

// wrongPolynomials have a wrong monomial at each place, beside any coefficient; in
// some of them the others are in order.
func wrongPolynomials(n int) [][]api.Term {
	var all [][]api.Term
	right := api.Term{C: fraction.Of(3), E: make([]int, n)}
	great := api.Term{C: fraction.Of(3), E: slices.Repeat([]int{limit}, n)}
	for _, e := range wrongExponents(n) {
		for _, c := range []api.Rat{fraction.Of(1), fraction.Of(0), {}, {Num: api.Int{Mag: []uint32{5}}, Den: []uint32{0}}} {
			wrong := api.Term{C: c, E: e}
			cancels := api.Term{C: fraction.Neg(c), E: e}
			all = append(all, []api.Term{wrong}, []api.Term{right, wrong}, []api.Term{wrong, right}, []api.Term{great, wrong, right}, []api.Term{right, wrong, cancels})
		}
	}
	return all
}

// zeros are lists of terms whose sum is 0.
func zeros(n int) [][]api.Term {
	one := make([]int, n)
	high := slices.Repeat([]int{limit}, n)
	return [][]api.Term{
		nil,
		{},
		{{C: fraction.Of(0), E: one}},
		{{E: high}},
		{{C: api.Rat{Num: api.Int{Neg: true, Mag: []uint32{7}}, Den: []uint32{0, 0}}, E: one}},
		{{C: fraction.Of(2), E: high}, {C: fraction.Of(-2), E: high}},
		{{C: fraction.Of(0), E: high}, {C: fraction.Of(0), E: one}},
		{{C: fraction.Of(2), E: one}, {C: fraction.Of(2), E: high}, {C: fraction.Of(-2), E: one}, {C: fraction.Of(-2), E: high}},
	}
}

// wrongFuels are not from 0 to MaxFuel.
func wrongFuels() []int {
	return []int{-1, -2, api.MaxFuel + 1, api.MaxFuel + 2, 2 * api.MaxFuel, -api.MaxFuel, 1 << 32, 1<<32 + 5, math.MaxInt, math.MinInt}
}

// expectSpolyError expects an error of both orders of two polynomials.
func expectSpolyError(t *testing.T, r api.Ring, p, q []api.Term, want api.Errno) {
	t.Helper()
	for range 2 {
		if l, e := reduce.Spoly(r, p, q); e != want || len(l) != 0 {
			t.Errorf("O3: Spoly of %v and %v in %v: %v, %d, not %d", p, q, r, l, e, want)
		}
		p, q = q, p
	}
}

// The ring comes first, whatever the polynomials and the fuel are.
func TestRings(t *testing.T) {
	good := []api.Term{{C: fraction.Of(1), E: []int{0, 1}}}
	polynomials := append(append(zeros(2), wrongPolynomials(2)...), good)
	for _, r := range wrongRings() {
		for _, p := range polynomials {
			for _, fuel := range []int{0, 5, -1, api.MaxFuel + 1} {
				expectError(t, r, p, nil, fuel, api.ErrRing)
				expectError(t, r, p, [][]api.Term{good}, fuel, api.ErrRing)
				expectError(t, r, good, [][]api.Term{good, p}, fuel, api.ErrRing)
				expectError(t, r, nil, [][]api.Term{p}, fuel, api.ErrRing)
			}
			expectSpolyError(t, r, p, good, api.ErrRing)
			expectSpolyError(t, r, p, nil, api.ErrRing)
			expectSpolyError(t, r, p, p, api.ErrRing)
		}
	}
}

// A wrong monomial comes before all but the ring: in p, and in any element, even
// behind one that would fit, and if p is 0.
func TestPolynomials(t *testing.T) {
	for _, r := range allRings() {
		n := len(r.Names)
		one := []api.Term{{C: fraction.Of(1), E: make([]int, n)}}
		for _, p := range wrongPolynomials(n) {
			for _, fuel := range []int{0, 5, -1, api.MaxFuel + 1} {
				expectError(t, r, p, nil, fuel, api.ErrPoly)
				expectError(t, r, p, [][]api.Term{one, nil}, fuel, api.ErrPoly)
				expectError(t, r, p, [][]api.Term{p}, fuel, api.ErrPoly)
				for _, q := range [][]api.Term{nil, one} {
					expectError(t, r, q, [][]api.Term{p}, fuel, api.ErrPoly)
					expectError(t, r, q, [][]api.Term{p, one}, fuel, api.ErrPoly)
					expectError(t, r, q, [][]api.Term{one, p, one}, fuel, api.ErrPoly)
					expectError(t, r, q, [][]api.Term{nil, one, p}, fuel, api.ErrPoly)
				}
			}
			for _, q := range append(zeros(n), one, p) {
				expectSpolyError(t, r, p, q, api.ErrPoly)
			}
		}
	}
}

// Fuel that may not be comes before what the division finds, also if nothing has
// to be done.
func TestFuelThatMayNotBe(t *testing.T) {
	for _, r := range allRings() {
		n := len(r.Names)
		one := []api.Term{{C: fraction.Of(1), E: make([]int, n)}}
		great := []api.Term{{C: fraction.Of(1), E: slices.Repeat([]int{limit}, n)}}
		for _, fuel := range wrongFuels() {
			for _, p := range append(zeros(n), one, great) {
				for _, l := range [][][]api.Term{nil, {}, {nil}, {one}, {nil, great, one}} {
					expectError(t, r, p, l, fuel, api.ErrArg)
				}
			}
		}
	}
	// And before ErrLong.
	r := lex(2)
	expectError(t, r, parsed(t, r, "x*y^65536"), parsedList(t, r, "x - y"), -1, api.ErrArg)
	expectError(t, r, parsed(t, r, "x*y^65536"), parsedList(t, r, "x - y"), api.MaxFuel+1, api.ErrArg)
}

// Spoly with 0, in all forms, and with anything else.
func TestO3Zeros(t *testing.T) {
	for _, r := range allRings() {
		n := len(r.Names)
		one := []api.Term{{C: fraction.Of(1), E: make([]int, n)}}
		great := []api.Term{{C: fraction.Of(1), E: slices.Repeat([]int{limit}, n)}}
		for _, zero := range zeros(n) {
			for _, p := range append(zeros(n), one, great) {
				expectSpolyError(t, r, p, zero, api.ErrZero)
			}
		}
	}
}
