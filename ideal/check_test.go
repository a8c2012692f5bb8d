package ideal_test

import (
	"math"
	"slices"
	"testing"

	"primrose/api"
	"primrose/fraction"
)

// wrongRings are rings that are not valid; but for the first two and the last
// one, terms with two exponents fit.
func wrongRings() []api.Ring {
	return []api.Ring{
		{},
		{Names: []string{"x"}, Order: api.Block, First: 1},
		{Names: []string{"x", "x"}},
		{Names: []string{"x", ""}},
		{Names: []string{"1", "y"}},
		{Names: []string{"x", "y"}, Order: 4},
		{Names: []string{"x", "y"}, Order: -1},
		{Names: []string{"x", "y"}, Order: api.Block},
		{Names: []string{"x", "y"}, Order: api.Block, First: 2},
		{Names: []string{"x", "y"}, Order: api.Lex, First: 1},
		{Names: []string{"a", "b", "c", "d", "e", "f", "g"}},
	}
}

// wrongExponents are lists that are no monomials of n variables.
func wrongExponents(n int) [][]int {
	all := [][]int{nil, make([]int, n-1), make([]int, n+1)}
	for _, i := range []int{0, n - 1} {
		for _, x := range []int{-1, limit + 1, math.MinInt, math.MaxInt} {
			e := make([]int, n)
			e[i] = x
			all = append(all, e)
		}
	}
	return all
}

// wrongPolynomials have a wrong monomial at each place, beside any coefficient.
func wrongPolynomials(n int) [][]api.Term {
	var all [][]api.Term
	right := api.Term{C: fraction.Of(3), E: make([]int, n)}
	for _, e := range wrongExponents(n) {
		for _, c := range []api.Rat{fraction.Of(1), fraction.Of(0), {}} {
			wrong := api.Term{C: c, E: e}
			cancels := api.Term{C: fraction.Neg(c), E: e}
			all = append(all, []api.Term{wrong}, []api.Term{wrong, right}, []api.Term{right, wrong, cancels})
		}
	}
	return all
}

// zeros are lists of terms whose sum is 0.
func zeros(n int) [][]api.Term {
	one := make([]int, n)
	high := slices.Repeat([]int{limit}, n)
	return [][]api.Term{
		nil,
		{},
		{{C: fraction.Of(0), E: one}},
		{{E: high}},
		{{C: api.Rat{Num: api.Int{Neg: true, Mag: []uint32{7}}, Den: []uint32{0, 0}}, E: one}},
		{{C: fraction.Of(2), E: high}, {C: fraction.Of(-2), E: high}},
		{{C: fraction.Of(2), E: one}, {C: fraction.Of(2), E: high}, {C: fraction.Of(-2), E: one}, {C: fraction.Of(-2), E: high}},
	}
}

// wrongFuels are not from 0 to MaxFuel.
func wrongFuels() []int {
	return []int{-1, -2, api.MaxFuel + 1, 2 * api.MaxFuel, -api.MaxFuel, 1 << 32, 1<<32 + 5, math.MaxInt, math.MinInt}
}

// wrongNumbers are not from 0 to n.
func wrongNumbers(n int) []int {
	return []int{-1, -2, n + 1, n + 2, 7, 1 << 32, math.MaxInt, math.MinInt}
}

// expectError expects nothing beside an error of each call, with f and h as they are,
// if h may be several polynomials, and with its last element otherwise.
func expectError(t *testing.T, r api.Ring, f, h [][]api.Term, k, fuel int, want api.Errno) {
	t.Helper()
	for _, call := range calls() {
		switch {
		case !hasOne(call):
			expectNothing(t, question{call, r, f, h, k}, fuel, want)
		case len(h) > 0:
			expectNothing(t, question{call, r, f, h[len(h)-1:], k}, fuel, want)
		}
	}
}

// expectNothing expects nothing beside an error.
func expectNothing(t *testing.T, q question, fuel int, want api.Errno) {
	t.Helper()
	if a := q.ask(fuel); a.e != want || a.left != 0 || a.is || a.s != 0 || a.g != nil {
		t.Fatalf("%s of %v and %v, %d in %v with %d: %v, not %d", q.call, q.f, q.h, q.k, q.r, fuel, a, want)
	}
}

// The ring comes first, whatever the polynomials, k and the fuel are.
func TestRings(t *testing.T) {
	t.Parallel()
	good := []api.Term{{C: fraction.Of(1), E: []int{0, 1}}}
	polynomials := append(append(zeros(2), wrongPolynomials(2)...), good)
	for _, r := range wrongRings() {
		for _, fuel := range []int{0, 5, api.MaxFuel, -1, api.MaxFuel + 1} {
			for _, k := range []int{0, 1, -1, 3} {
				expectError(t, r, nil, nil, k, fuel, api.ErrRing)
				expectError(t, r, [][]api.Term{}, [][]api.Term{nil}, k, fuel, api.ErrRing)
				for _, p := range polynomials {
					expectError(t, r, [][]api.Term{p}, [][]api.Term{good}, k, fuel, api.ErrRing)
					expectError(t, r, [][]api.Term{good}, [][]api.Term{p, p}, k, fuel, api.ErrRing)
					expectError(t, r, nil, [][]api.Term{p}, k, fuel, api.ErrRing)
				}
			}
		}
	}
}

// A wrong monomial in any element comes before all but the ring: before k and fuel
// that may not be, before a product that is too great, before a wider ring that does
// not exist, and if nothing would have to be done.
func TestPolynomials(t *testing.T) {
	t.Parallel()
	for _, r := range allRings() {
		n := len(r.Names)
		one := []api.Term{{C: fraction.Of(1), E: make([]int, n)}}
		great := []api.Term{{C: fraction.Of(1), E: slices.Repeat([]int{limit}, n)}}
		for _, p := range wrongPolynomials(n) {
			for _, fuel := range []int{0, 5, -1, api.MaxFuel + 1} {
				for _, k := range []int{0, 1, -1, n + 1} {
					expectError(t, r, [][]api.Term{p}, [][]api.Term{nil}, k, fuel, api.ErrPoly)
					expectError(t, r, [][]api.Term{great, nil, one, p}, [][]api.Term{great}, k, fuel, api.ErrPoly)
					expectError(t, r, [][]api.Term{p, one}, nil, k, fuel, api.ErrPoly)
					expectError(t, r, [][]api.Term{p}, [][]api.Term{p}, k, fuel, api.ErrPoly)
				}
				for _, h := range [][][]api.Term{{p}, {one, p}, {great, nil, p}} {
					for _, f := range [][][]api.Term{nil, {nil}, {great, one}} {
						expectErrorOfH(t, r, f, h, fuel)
					}
				}
				expectErrorOfH(t, r, [][]api.Term{one}, [][]api.Term{p, one, p}, fuel)
			}
		}
	}
}

// expectErrorOfH expects ErrPoly of all calls that have h.
func expectErrorOfH(t *testing.T, r api.Ring, f, h [][]api.Term, fuel int) {
	t.Helper()
	for _, call := range calls() {
		switch {
		case call == "Eliminate":
		case hasOne(call):
			expectNothing(t, question{call, r, f, h[len(h)-1:], 0}, fuel, api.ErrPoly)
		default:
			expectNothing(t, question{call, r, f, h, 0}, fuel, api.ErrPoly)
		}
	}
}

// In h a wrong monomial may also be in its first element alone.
func TestPolynomialsAtTheBeginning(t *testing.T) {
	t.Parallel()
	for _, r := range allRings() {
		n := len(r.Names)
		one := []api.Term{{C: fraction.Of(1), E: make([]int, n)}}
		for _, p := range wrongPolynomials(n) {
			for _, call := range []string{"Subset", "Sum", "Product", "Meet", "Quotient"} {
				for _, fuel := range []int{0, -1, 100} {
					expectNothing(t, question{call, r, [][]api.Term{one}, [][]api.Term{p, one}, 0}, fuel, api.ErrPoly)
					expectNothing(t, question{call, r, nil, [][]api.Term{p, nil, one}, 0}, fuel, api.ErrPoly)
				}
			}
		}
	}
}

// Fuel that may not be comes before all that the steps find, also if none would have
// to be taken; before a product that is too great; and before a wider ring that does
// not exist.
func TestFuelThatMayNotBe(t *testing.T) {
	t.Parallel()
	for _, r := range allRings() {
		n := len(r.Names)
		one := []api.Term{{C: fraction.Of(1), E: make([]int, n)}}
		great := []api.Term{{C: fraction.Of(1), E: slices.Repeat([]int{limit}, n)}}
		lists := [][][]api.Term{nil, {}, {nil}, zeros(n), {one}, {great, one, great}, {one, nil, one}}
		for _, fuel := range wrongFuels() {
			for _, f := range lists {
				for _, h := range lists {
					for _, k := range []int{0, 1, n, -1} {
						expectError(t, r, f, h, k, fuel, api.ErrArg)
					}
				}
			}
		}
	}
	// And before ErrLong of a basis.
	r := lex(2)
	for _, fuel := range wrongFuels() {
		f := parsedList(t, r, "x^2 + y^40000; x*y^40000 + 1")
		expectError(t, r, f, f, 0, fuel, api.ErrArg)
	}
}

// A wrong k comes before all that the steps find, and before fuel that is missing.
func TestQ3Numbers(t *testing.T) {
	for _, r := range allRings() {
		n := len(r.Names)
		one := []api.Term{{C: fraction.Of(1), E: make([]int, n)}}
		for _, k := range wrongNumbers(n) {
			for _, fuel := range []int{0, 1, 5, api.MaxFuel} {
				for _, f := range [][][]api.Term{nil, {}, {nil}, zeros(n), {one}, {one, nil, one}} {
					expectNothing(t, question{"Eliminate", r, f, nil, k}, fuel, api.ErrArg)
				}
			}
		}
		for k := range n + 1 {
			expect(t, question{"Eliminate", r, [][]api.Term{one}, nil, k}, 0, answer{g: []sum{sumOf(one)}})
		}
	}
	r := lex(2)
	for _, k := range wrongNumbers(2) {
		expectNothing(t, question{"Eliminate", r, parsedList(t, r, "x^2 + y^40000; x*y^40000 + 1"), nil, k}, 100, api.ErrArg)
	}
}

// All of the fuel may be given, and none.
func TestFuelThatMayBe(t *testing.T) {
	for _, r := range allRings() {
		x := [][]api.Term{power(0, 1).terms(r)}
		for _, fuel := range []int{0, 1, api.MaxFuel - 1, api.MaxFuel} {
			expect(t, question{"Member", r, x, [][]api.Term{nil}, 0}, fuel, answer{is: true, left: fuel})
			expect(t, question{"Subset", r, nil, x, 0}, fuel, answer{is: true, left: fuel})
			expect(t, question{"Sum", r, x, nil, 0}, fuel, answer{g: sumsOf(x), left: fuel})
			expect(t, question{"Product", r, x, x, 0}, fuel, answer{g: []sum{power(0, 2)}, left: fuel})
			expect(t, question{"Eliminate", r, x, nil, 1}, fuel, answer{left: fuel})
			expect(t, question{"Quotient", r, x, nil, 0}, fuel, answer{g: []sum{constant(rat(1, 1))}, left: fuel})
			if len(r.Names) < api.MaxVars {
				expect(t, question{"Meet", r, x, nil, 0}, fuel, answer{left: fuel})
				expect(t, question{"Saturate", r, nil, x, 0}, fuel, answer{left: fuel})
			}
		}
	}
}
