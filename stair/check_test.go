package stair_test

import (
	"math"
	"slices"
	"testing"

	"primrose/api"
	"primrose/fraction"
)

// wrongRings are rings that are not valid; but for the first two and the last
// one, terms with two exponents fit.
func wrongRings() []api.Ring {
	return []api.Ring{
		{},
		{Names: []string{"x"}, Order: api.Block, First: 1},
		{Names: []string{"x", "x"}},
		{Names: []string{"x", ""}},
		{Names: []string{"1", "y"}},
		{Names: []string{"x", "y"}, Order: 4},
		{Names: []string{"x", "y"}, Order: -1},
		{Names: []string{"x", "y"}, Order: api.Block},
		{Names: []string{"x", "y"}, Order: api.Block, First: 2},
		{Names: []string{"x", "y"}, Order: api.Lex, First: 1},
		{Names: []string{"a", "b", "c", "d", "e", "f", "g"}},
	}
}

// wrongExponents are lists that are no monomials of n variables.
func wrongExponents(n int) [][]int {
	all := [][]int{nil, {}, make([]int, n-1), make([]int, n+1), slices.Repeat([]int{1}, n+1)}
	for i := range n {
		for _, x := range []int{-1, limit + 1, math.MinInt, math.MaxInt, 1 << 32, -limit} {
			e := make([]int, n)
			e[i] = x
			all = append(all, e)
		}
	}
	return all
}

// wrongPolynomials have a wrong monomial at each place, beside any coefficient.
func wrongPolynomials(n int) [][]api.Term {
	var all [][]api.Term
	right := api.Term{C: fraction.Of(3), E: make([]int, n)}
	great := api.Term{C: fraction.Of(3), E: slices.Repeat([]int{limit}, n)}
	for _, e := range wrongExponents(n) {
		for _, c := range []api.Rat{fraction.Of(1), fraction.Of(0), {}, {Num: api.Int{Mag: []uint32{5}}, Den: []uint32{0}}} {
			wrong := api.Term{C: c, E: e}
			cancels := api.Term{C: fraction.Neg(c), E: e}
			all = append(all, []api.Term{wrong}, []api.Term{right, wrong}, []api.Term{wrong, right}, []api.Term{great, wrong, right}, []api.Term{right, wrong, cancels})
		}
	}
	return all
}

// zeros are lists of terms whose sum is 0.
func zeros(n int) [][]api.Term {
	one := make([]int, n)
	high := slices.Repeat([]int{limit}, n)
	return [][]api.Term{
		nil,
		{},
		{{C: fraction.Of(0), E: one}},
		{{E: high}},
		{{C: api.Rat{Num: api.Int{Neg: true, Mag: []uint32{7}}, Den: []uint32{0, 0}}, E: one}},
		{{C: fraction.Of(2), E: high}, {C: fraction.Of(-2), E: high}},
		{{C: fraction.Of(0), E: high}, {C: fraction.Of(0), E: one}},
		{{C: fraction.Of(2), E: one}, {C: fraction.Of(2), E: high}, {C: fraction.Of(-2), E: one}, {C: fraction.Of(-2), E: high}},
	}
}

// wrongFuels are not from 0 to MaxFuel.
func wrongFuels() []int {
	return []int{-1, -2, api.MaxFuel + 1, api.MaxFuel + 2, 2 * api.MaxFuel, -api.MaxFuel, 1 << 32, 1<<32 + 5, math.MaxInt, math.MinInt}
}

// The ring comes first, whatever the polynomials and the fuel are.
func TestRings(t *testing.T) {
	t.Parallel()
	good := []api.Term{{C: fraction.Of(1), E: []int{0, 1}}}
	polynomials := append(append(zeros(2), wrongPolynomials(2)...), good)
	for _, r := range wrongRings() {
		for _, fuel := range []int{0, 5, api.MaxFuel, -1, api.MaxFuel + 1} {
			expectError(t, r, nil, fuel, api.ErrRing)
			expectError(t, r, [][]api.Term{}, fuel, api.ErrRing)
			for _, p := range polynomials {
				expectError(t, r, [][]api.Term{p}, fuel, api.ErrRing)
				expectError(t, r, [][]api.Term{good, p, p}, fuel, api.ErrRing)
			}
		}
	}
}

// A wrong monomial in any element comes before all but the ring: before fuel that may
// not be, beside a constant, and if nothing would have to be done.
func TestPolynomials(t *testing.T) {
	t.Parallel()
	for _, r := range allRings() {
		n := len(r.Names)
		one := []api.Term{{C: fraction.Of(1), E: make([]int, n)}}
		great := power(n-1, limit).terms(r)
		for _, p := range wrongPolynomials(n) {
			for _, fuel := range []int{0, 5, -1, api.MaxFuel + 1} {
				expectError(t, r, [][]api.Term{p}, fuel, api.ErrPoly)
				expectError(t, r, [][]api.Term{p, p}, fuel, api.ErrPoly)
				expectError(t, r, [][]api.Term{p, one, one}, fuel, api.ErrPoly)
				expectError(t, r, [][]api.Term{one, p, one}, fuel, api.ErrPoly)
				expectError(t, r, [][]api.Term{one, nil, one, p}, fuel, api.ErrPoly)
				expectError(t, r, [][]api.Term{great, p}, fuel, api.ErrPoly)
			}
		}
	}
}

// Fuel that may not be comes before all that is wrong with the ideal: before
// ErrWhole, before ErrPoint, before ErrLong, also if no step would have to be taken.
func TestFuelThatMayNotBe(t *testing.T) {
	t.Parallel()
	for _, r := range allRings() {
		n := len(r.Names)
		one := []api.Term{{C: fraction.Of(1), E: make([]int, n)}}
		x, great := power(0, 1).terms(r), power(0, limit).terms(r)
		lists := [][][]api.Term{nil, {}, {nil}, zeros(n), {one}, {x}, {great}, {great, one, great}, {one, nil, one}, powersOf(r, limit), powersOf(r, 2)}
		for _, fuel := range wrongFuels() {
			for _, f := range lists {
				expectError(t, r, f, fuel, api.ErrArg)
			}
		}
	}
	// And before ErrLong of a basis.
	r := lex(2)
	for _, fuel := range wrongFuels() {
		expectError(t, r, parsedList(t, r, "x^2 + y^40000; x*y^40000 + 1"), fuel, api.ErrArg)
	}
}

// powersOf are the powers of all variables of a ring.
func powersOf(r api.Ring, n int) [][]api.Term {
	var l [][]api.Term
	for i := range r.Names {
		l = append(l, power(i, n).terms(r))
	}
	return l
}

// All of the fuel may be given, and none.
func TestFuelThatMayBe(t *testing.T) {
	for _, r := range allRings() {
		n := len(r.Names)
		x, one := [][]api.Term{power(n-1, 1).terms(r)}, [][]api.Term{constant(rat(-2, 3)).terms(r)}
		for _, fuel := range []int{0, 1, 2, api.MaxFuel - 1, api.MaxFuel} {
			expect(t, "Dim", r, x, fuel, reply{dim: n - 1, left: fuel})
			expect(t, "Independent", r, x, fuel, reply{set: allBut(n, n-1), left: fuel})
			expect(t, "Dim", r, one, fuel, reply{dim: -1, left: fuel})
			expectNothing(t, "Independent", r, one, fuel, api.ErrWhole)
			expect(t, "Below", r, one, fuel, reply{left: fuel})
			if n == 1 {
				expect(t, "Below", r, x, fuel, reply{below: [][]int{{0}}, left: fuel})
			} else {
				expectNothing(t, "Below", r, x, fuel, api.ErrPoint)
			}
		}
	}
}
