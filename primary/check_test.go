package primary_test

import (
	"math"
	"slices"
	"testing"

	"primrose/api"
	"primrose/fraction"
)

// wrongRings are rings that are not valid; but for the first two and the last
// one, terms with two exponents fit.
func wrongRings() []api.Ring {
	return []api.Ring{
		{},
		{Names: []string{"x"}, Order: api.Block, First: 1},
		{Names: []string{"x", "x"}},
		{Names: []string{"x", ""}},
		{Names: []string{"1", "y"}},
		{Names: []string{"x", "y"}, Order: 4},
		{Names: []string{"x", "y"}, Order: -1},
		{Names: []string{"x", "y"}, Order: api.Block},
		{Names: []string{"x", "y"}, Order: api.Block, First: 2},
		{Names: []string{"x", "y"}, Order: api.Lex, First: 1},
		{Names: []string{"a", "b", "c", "d", "e", "f", "g"}},
	}
}

// wrongPolynomials have a wrong monomial of n variables at each place, beside any
// coefficient.
func wrongPolynomials(n int) [][]api.Term {
	monomials := [][]int{nil, {}, make([]int, n-1), make([]int, n+1), slices.Repeat([]int{1}, n+1)}
	for i := range n {
		for _, x := range []int{-1, api.MaxExp + 1, math.MinInt, math.MaxInt, 1 << 32} {
			e := make([]int, n)
			e[i] = x
			monomials = append(monomials, e)
		}
	}
	var all [][]api.Term
	right := api.Term{C: fraction.Of(3), E: make([]int, n)}
	for _, e := range monomials {
		for _, c := range []api.Rat{fraction.Of(1), fraction.Of(0), {}} {
			wrong := api.Term{C: c, E: e}
			cancels := api.Term{C: fraction.Neg(c), E: e}
			all = append(all, []api.Term{wrong}, []api.Term{wrong, right}, []api.Term{right, wrong, cancels})
		}
	}
	return all
}

// zeros are lists of terms whose sum is 0.
func zeros(n int) [][]api.Term {
	one := make([]int, n)
	high := slices.Repeat([]int{api.MaxExp}, n)
	return [][]api.Term{
		nil,
		{},
		{{C: fraction.Of(0), E: one}},
		{{E: high}},
		{{C: api.Rat{Num: api.Int{Neg: true, Mag: []uint32{7}}, Den: []uint32{0, 0}}, E: one}},
		{{C: fraction.Of(2), E: high}, {C: fraction.Of(-2), E: high}},
		{{C: fraction.Of(2), E: one}, {C: fraction.Of(2), E: high}, {C: fraction.Of(-2), E: one}, {C: fraction.Of(-2), E: high}},
	}
}

// wrongFuels are not from 0 to MaxFuel.
func wrongFuels() []int {
	return []int{-1, -2, api.MaxFuel + 1, api.MaxFuel + 2, 2 * api.MaxFuel, -api.MaxFuel, 1 << 32, 1<<32 + 5, math.MaxInt, math.MinInt}
}

// expectError expects nothing beside an error of each call.
func expectError(t *testing.T, r api.Ring, f [][]api.Term, fuel int, want api.Errno) {
	t.Helper()
	for _, call := range calls() {
		expectNothing(t, question{call, r, f}, fuel, want)
	}
}

// The ring comes first, whatever the polynomials and the fuel are.
func TestRings(t *testing.T) {
	t.Parallel()
	good := []api.Term{{C: fraction.Of(1), E: []int{0, 1}}}
	polynomials := slices.Concat(zeros(2), wrongPolynomials(2), [][]api.Term{good})
	for _, r := range wrongRings() {
		for _, fuel := range append(wrongFuels(), 0, 5, api.MaxFuel) {
			expectError(t, r, nil, fuel, api.ErrRing)
			expectError(t, r, [][]api.Term{}, fuel, api.ErrRing)
			for _, p := range polynomials {
				expectError(t, r, [][]api.Term{p}, fuel, api.ErrRing)
				expectError(t, r, [][]api.Term{good, p, p}, fuel, api.ErrRing)
			}
		}
	}
}

// A wrong monomial in any element comes before all but the ring: before fuel that may not
// be, beside a constant, and with six variables.
func TestPolynomials(t *testing.T) {
	t.Parallel()
	for n := 1; n <= 6; n++ {
		for _, r := range rings(n) {
			one, great := number(r, 1), variable(r, n-1, api.MaxExp)
			for k, p := range wrongPolynomials(n) {
				for _, fuel := range []int{0, 5, api.MaxFuel, wrongFuels()[k%10]} {
					expectError(t, r, [][]api.Term{p}, fuel, api.ErrPoly)
					expectError(t, r, [][]api.Term{p, one, one}, fuel, api.ErrPoly)
					expectError(t, r, [][]api.Term{one, p, one}, fuel, api.ErrPoly)
					expectError(t, r, [][]api.Term{one, nil, great, p}, fuel, api.ErrPoly)
				}
			}
		}
	}
}

// lists are ideals with which each call ends soon, in several ways.
func lists(r api.Ring) [][][]api.Term {
	n := len(r.Names)
	x, one, great := variable(r, 0, 1), number(r, 1), variable(r, n-1, api.MaxExp)
	return [][][]api.Term{nil, {}, {nil}, zeros(n), {one}, {x}, {great}, {great, one}, {one, nil, one}, {x, great, variable(r, n-1, 2)}}
}

// Fuel that may not be comes before all that is wrong with the ideal, also if no step
// would have to be taken, and before ErrLong with six variables.
func TestFuelThatMayNotBe(t *testing.T) {
	t.Parallel()
	for n := 1; n <= 6; n++ {
		for _, r := range rings(n) {
			for _, fuel := range wrongFuels() {
				for _, f := range lists(r) {
					expectError(t, r, f, fuel, api.ErrArg)
				}
			}
		}
	}
	r := lex(2)
	for _, fuel := range wrongFuels() { // and before ErrLong of a basis
		expectError(t, r, parsedList(t, r, "x^2 + y^40000; x*y^40000 + 1"), fuel, api.ErrArg)
	}
}

// With six variables there is ErrLong before the first basis is taken, whatever the ideal
// and the fuel are.
func TestSixVariables(t *testing.T) {
	t.Parallel()
	for _, r := range rings(6) {
		for _, fuel := range []int{0, 1, 100, api.MaxFuel} {
			for _, f := range lists(r) {
				expectError(t, r, f, fuel, api.ErrLong)
			}
			expectError(t, r, parsedList(t, r, "x*y - 1; y^2 - z; z^2 - 2; u; v; w"), fuel, api.ErrLong)
		}
	}
}

// Several errors at once: the first one of the list is returned.
func TestOrderOfErrors(t *testing.T) {
	t.Parallel()
	for set := 1; set < 1<<4; set++ {
		has := func(k int) bool { return set>>k&1 == 1 }
		r, fuel := lex(3), 0
		if has(3) {
			r = lex(6)
		}
		f := parsedList(t, r, "x^2 - 2; x*y; 0")
		if has(2) {
			fuel = wrongFuels()[set%10]
		}
		if has(1) {
			f = append(f, wrongPolynomials(len(r.Names))[set%9])
		}
		if has(0) {
			r.First = 1
		}
		first := slices.IndexFunc([]int{0, 1, 2, 3}, has)
		expectError(t, r, f, fuel, []api.Errno{api.ErrRing, api.ErrPoly, api.ErrArg, api.ErrLong}[first])
	}
}

// answers are what the calls answer for an ideal that has one component, its own prime,
// or none.
func answers(g [][]api.Term, isWhole bool, left int) map[string]reply {
	l := map[string]reply{
		"Decompose": {l: []api.Component{{Q: g, P: g}}}, "Primes": {p: [][][]api.Term{g}}, "Least": {p: [][][]api.Term{g}},
		"Radical": {g: g}, "Hull": {g: g},
	}
	for call, a := range l {
		if isWhole {
			a.l, a.p = nil, nil
		}
		a.left = left
		l[call] = a
	}
	return l
}

// Without polynomials, and with 0 alone, there is one component without polynomials. That
// takes no steps.
func TestZeroIdeal(t *testing.T) {
	t.Parallel()
	for n := 1; n <= 5; n++ {
		for _, r := range rings(n) {
			ideals := [][][]api.Term{nil, {}, zeros(n)}
			for _, p := range zeros(n) {
				ideals = append(ideals, [][]api.Term{p}, [][]api.Term{p, p})
			}
			for _, f := range ideals {
				for _, fuel := range []int{0, 1, 2, api.MaxFuel - 1, api.MaxFuel} {
					for call, want := range answers(nil, false, fuel) {
						expect(t, question{call, r, f}, fuel, want)
					}
				}
			}
		}
	}
}

// The whole ring, told by a number or by polynomials whose basis is 1, has no components,
// and is its own radical and hull. Only its basis takes steps.
func TestWholeRing(t *testing.T) {
	t.Parallel()
	for n := 1; n <= 5; n++ {
		for _, r := range rings(n) {
			first, last := r.Names[0], r.Names[n-1]
			for text, steps := range map[string]int{
				"1": 0, "-5/7": 0, "0; 2": 0, "3; 4": 1, "7; 0; 1/2": 1, last + "; " + last + " + 1": 3, first + "^2 + 1; 0; " + first: 3, last + "; 1; 5": 3,
				first + "; 2*" + last + " - 1; " + last + " + " + first + " + 3": -1,
			} {
				f := parsedList(t, r, text)
				if steps < 0 {
					c := words{r: r, left: api.MaxFuel}
					c.basis("", r, f)
					steps = c.parts[0].steps
				}
				for call, want := range answers([][]api.Term{number(r, 1)}, true, 0) {
					q := question{call, r, f}
					for fuel := range steps {
						expectNothing(t, q, fuel, api.ErrFuel)
					}
					for _, more := range []int{0, 1, 100, api.MaxFuel - steps} {
						want.left = more
						expect(t, q, steps+more, want)
					}
				}
			}
		}
	}
}
