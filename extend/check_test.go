package extend_test

import (
	"math"
	"slices"
	"testing"

	"primrose/api"
	"primrose/fraction"
)

// wrongRings are rings that are not valid; but for the first two and the last
// one, terms with two exponents fit.
func wrongRings() []api.Ring {
	return []api.Ring{
		{},
		{Names: []string{"x"}, Order: api.Block, First: 1},
		{Names: []string{"x", "x"}},
		{Names: []string{"x", ""}},
		{Names: []string{"1", "y"}},
		{Names: []string{"x", "y"}, Order: 4},
		{Names: []string{"x", "y"}, Order: -1},
		{Names: []string{"x", "y"}, Order: api.Block},
		{Names: []string{"x", "y"}, Order: api.Block, First: 2},
		{Names: []string{"x", "y"}, Order: api.Lex, First: 1},
		{Names: []string{"a", "b", "c", "d", "e", "f", "g"}},
	}
}

// wrongExponents are lists that are no monomials of n variables.
func wrongExponents(n int) [][]int {
	all := [][]int{nil, {}, make([]int, n-1), make([]int, n+1), slices.Repeat([]int{1}, n+1)}
	for i := range n {
		for _, x := range []int{-1, limit + 1, math.MinInt, math.MaxInt, 1 << 32} {
			e := make([]int, n)
			e[i] = x
			all = append(all, e)
		}
	}
	return all
}

// wrongPolynomials have a wrong monomial at each place, beside any coefficient.
func wrongPolynomials(n int) [][]api.Term {
	var all [][]api.Term
	right := api.Term{C: fraction.Of(3), E: make([]int, n)}
	for _, e := range wrongExponents(n) {
		for _, c := range []api.Rat{fraction.Of(1), fraction.Of(0), {}} {
			wrong := api.Term{C: c, E: e}
			cancels := api.Term{C: fraction.Neg(c), E: e}
			all = append(all, []api.Term{wrong}, []api.Term{wrong, right}, []api.Term{right, wrong, cancels})
		}
	}
	return all
}

// zeros are lists of terms whose sum is 0.
func zeros(n int) [][]api.Term {
	one := make([]int, n)
	high := slices.Repeat([]int{limit}, n)
	return [][]api.Term{
		nil,
		{},
		{{C: fraction.Of(0), E: one}},
		{{E: high}},
		{{C: api.Rat{Num: api.Int{Neg: true, Mag: []uint32{7}}, Den: []uint32{0, 0}}, E: one}},
		{{C: fraction.Of(2), E: high}, {C: fraction.Of(-2), E: high}},
		{{C: fraction.Of(2), E: one}, {C: fraction.Of(2), E: high}, {C: fraction.Of(-2), E: one}, {C: fraction.Of(-2), E: high}},
	}
}

// wrongFuels are not from 0 to MaxFuel.
func wrongFuels() []int {
	return []int{-1, -2, api.MaxFuel + 1, api.MaxFuel + 2, 2 * api.MaxFuel, -api.MaxFuel, 1 << 32, 1<<32 + 5, math.MaxInt, math.MinInt}
}

// wrongSets are no indices of n variables in strictly ascending order.
func wrongSets(n int) [][]int {
	all := [][]int{{-1}, {n}, {n + 1}, {6}, {0, 0}, {0, -1}, {-1, 0}, {0, n}, {n - 1, n}, {n - 1, n - 1}, {math.MinInt}, {math.MaxInt}, {0, math.MaxInt}, {math.MinInt, 0}, {1 << 32}, {-1 << 32, 0}}
	var each, twice, descending []int
	for i := range n {
		each, twice, descending = append(each, i), append(twice, i, i), append([]int{i}, descending...)
	}
	all = append(all, append(slices.Clone(each), n), append([]int{-1}, each...), append(each, each...), twice, make([]int, 7), make([]int, 100))
	if n > 1 {
		all = append(all, descending, []int{1, 0}, []int{n - 1, 0}, []int{0, n - 1, 0}, []int{0, n - 1, n - 1}, []int{0, 0, n - 1})
	}
	return all
}

// one is a list of the polynomial 1.
func one(n int) []api.Term {
	return []api.Term{{C: fraction.Of(1), E: make([]int, n)}}
}

// The ring comes first, whatever the polynomials, u and the fuel are.
func TestRings(t *testing.T) {
	t.Parallel()
	good := []api.Term{{C: fraction.Of(1), E: []int{0, 1}}}
	polynomials := append(append(zeros(2), wrongPolynomials(2)...), good)
	for _, r := range wrongRings() {
		for _, u := range [][]int{nil, {0}, {0, 1}, {-1}, {2}, {1, 0}} {
			for _, fuel := range []int{0, 5, api.MaxFuel, -1, api.MaxFuel + 1} {
				expectError(t, r, nil, u, fuel, api.ErrRing)
				expectError(t, r, [][]api.Term{}, u, fuel, api.ErrRing)
				for _, p := range polynomials {
					expectError(t, r, [][]api.Term{p}, u, fuel, api.ErrRing)
					expectError(t, r, [][]api.Term{good, p, p}, u, fuel, api.ErrRing)
				}
			}
		}
	}
}

// A wrong monomial in any element comes before all but the ring: before fuel that may
// not be, before u that may not be, beside a constant, and if there is no wider ring.
func TestPolynomials(t *testing.T) {
	t.Parallel()
	for _, r := range allRings() {
		n := len(r.Names)
		great := power(n-1, limit).terms(r)
		for k, p := range wrongPolynomials(n) {
			u := append(wrongSets(n), allSets(n)...)[k%(len(wrongSets(n))+1<<n)]
			for _, fuel := range []int{0, 5, -1, api.MaxFuel + 1} {
				expectError(t, r, [][]api.Term{p}, u, fuel, api.ErrPoly)
				expectError(t, r, [][]api.Term{p, p}, u, fuel, api.ErrPoly)
				expectError(t, r, [][]api.Term{p, one(n), one(n)}, u, fuel, api.ErrPoly)
				expectError(t, r, [][]api.Term{one(n), p, one(n)}, u, fuel, api.ErrPoly)
				expectError(t, r, [][]api.Term{one(n), nil, one(n), p}, u, fuel, api.ErrPoly)
				expectError(t, r, [][]api.Term{great, p}, u, fuel, api.ErrPoly)
			}
		}
	}
}

// lists are ideals with which each call ends soon.
func lists(r api.Ring) [][][]api.Term {
	n := len(r.Names)
	x, great := power(0, 1).terms(r), power(0, limit).terms(r)
	return [][][]api.Term{nil, {}, {nil}, zeros(n), {one(n)}, {x}, {great}, {great, one(n), great}, {one(n), nil, one(n)}, {x, great, power(n-1, 2).terms(r)}}
}

// Fuel that may not be comes before all that is wrong with the ideal: before ErrWhole,
// before ErrPoint, before ErrLong, also if no step would have to be taken.
func TestFuelThatMayNotBe(t *testing.T) {
	t.Parallel()
	for _, r := range allRings() {
		n := len(r.Names)
		for _, fuel := range wrongFuels() {
			for k, f := range lists(r) {
				expectError(t, r, f, allSets(n)[k%(1<<n)], fuel, api.ErrArg)
				expectError(t, r, f, wrongSets(n)[k], fuel, api.ErrArg)
			}
		}
	}
	r := lex(2)
	for _, fuel := range wrongFuels() { // and before ErrLong of a basis
		expectError(t, r, parsedList(t, r, "x^2 + y^40000; x*y^40000 + 1"), nil, fuel, api.ErrArg)
	}
}

// So does a u that may not be, also before fuel that is not enough.
func TestSetsThatMayNotBe(t *testing.T) {
	t.Parallel()
	for _, r := range allRings() {
		for _, u := range wrongSets(len(r.Names)) {
			for _, fuel := range []int{0, 7, api.MaxFuel} {
				for _, f := range lists(r) {
					expectNothing(t, question{"Contract", r, f, u}, fuel, api.ErrArg)
					expectNothing(t, question{"Degree", r, f, u}, fuel, api.ErrArg)
				}
			}
		}
	}
	r := lex(2)
	for _, u := range wrongSets(2) {
		f := parsedList(t, r, "x^2 + y^40000; x*y^40000 + 1")
		expectNothing(t, question{"Contract", r, f, u}, 100, api.ErrArg)
		expectNothing(t, question{"Degree", r, f, u}, 100, api.ErrArg)
	}
}

// All of the fuel may be given, and none; u may be empty, of all variables and of some.
func TestArgumentsThatMayBe(t *testing.T) {
	t.Parallel()
	for _, r := range allRings() {
		n := len(r.Names)
		whole := append([]int{}, allBut(n)...)
		x := [][]api.Term{power(0, 1).terms(r)}
		for _, fuel := range []int{0, 1, 2, api.MaxFuel - 1, api.MaxFuel} {
			for _, u := range append(allSets(n), []int{}, whole) {
				degree := answer{e: api.ErrPoint}
				if len(u) == n {
					degree = answer{n: 1, left: fuel}
				}
				expect(t, question{"Degree", r, nil, u}, fuel, degree)
				expect(t, question{"Degree", r, [][]api.Term{one(n)}, u}, fuel, answer{left: fuel})
				contract := answer{left: fuel}
				if n == 6 {
					contract = answer{e: api.ErrLong}
				}
				expect(t, question{"Contract", r, nil, u}, fuel, contract)
				for _, call := range []string{"Contract", "Degree"} {
					expectWords(t, question{call, r, x, u}, fuel)
				}
			}
			halve := answer{u: whole, h: constant(rat(1, 1)), left: fuel}
			if n == 6 {
				halve = answer{e: api.ErrLong}
			}
			expect(t, question{"Halve", r, nil, nil}, fuel, halve)
			expectNothing(t, question{"Halve", r, [][]api.Term{one(n)}, nil}, fuel, api.ErrWhole)
		}
	}
}
