package point_test

import (
	"math"
	"slices"
	"testing"

	"primrose/api"
	"primrose/fraction"
)

// wrongRings are rings that are not valid; but for the first two and the last
// one, terms with two exponents fit.
func wrongRings() []api.Ring {
	return []api.Ring{
		{},
		{Names: []string{"x"}, Order: api.Block, First: 1},
		{Names: []string{"x", "x"}},
		{Names: []string{"x", ""}},
		{Names: []string{"1", "y"}},
		{Names: []string{"x", "y"}, Order: 4},
		{Names: []string{"x", "y"}, Order: -1},
		{Names: []string{"x", "y"}, Order: api.Block},
		{Names: []string{"x", "y"}, Order: api.Block, First: 2},
		{Names: []string{"x", "y"}, Order: api.Lex, First: 1},
		{Names: []string{"a", "b", "c", "d", "e", "f", "g"}},
	}
}

// wrongExponents are lists that are no monomials of n variables.
func wrongExponents(n int) [][]int {
	all := [][]int{nil, {}, make([]int, n-1), make([]int, n+1), slices.Repeat([]int{1}, n+1)}
	for i := range n {
		for _, x := range []int{-1, limit + 1, math.MinInt, math.MaxInt, 1 << 32} {
			e := make([]int, n)
			e[i] = x
			all = append(all, e)
		}
	}
	return all
}

// wrongPolynomials have a wrong monomial at each place, beside any coefficient.
func wrongPolynomials(n int) [][]api.Term {
	var all [][]api.Term
	right := api.Term{C: fraction.Of(3), E: make([]int, n)}
	for _, e := range wrongExponents(n) {
		for _, c := range []api.Rat{fraction.Of(1), fraction.Of(0), {}} {
			wrong := api.Term{C: c, E: e}
			cancels := api.Term{C: fraction.Neg(c), E: e}
			all = append(all, []api.Term{wrong}, []api.Term{wrong, right}, []api.Term{right, wrong, cancels})
		}
	}
	return all
}

// zeros are lists of terms whose sum is 0.
func zeros(n int) [][]api.Term {
	one := make([]int, n)
	high := slices.Repeat([]int{limit}, n)
	return [][]api.Term{
		nil,
		{},
		{{C: fraction.Of(0), E: one}},
		{{E: high}},
		{{C: api.Rat{Num: api.Int{Neg: true, Mag: []uint32{7}}, Den: []uint32{0, 0}}, E: one}},
		{{C: fraction.Of(2), E: high}, {C: fraction.Of(-2), E: high}},
		{{C: fraction.Of(2), E: one}, {C: fraction.Of(2), E: high}, {C: fraction.Of(-2), E: one}, {C: fraction.Of(-2), E: high}},
	}
}

// wrongFuels are not from 0 to MaxFuel.
func wrongFuels() []int {
	return []int{-1, -2, api.MaxFuel + 1, api.MaxFuel + 2, 2 * api.MaxFuel, -api.MaxFuel, 1 << 32, 1<<32 + 5, math.MaxInt, math.MinInt}
}

// wrongSets are no indices of n variables in strictly ascending order.
func wrongSets(n int) [][]int {
	all := [][]int{{-1}, {n}, {n + 1}, {6}, {0, 0}, {0, -1}, {-1, 0}, {0, n}, {n - 1, n}, {n - 1, n - 1}, {math.MinInt}, {math.MaxInt}, {0, math.MaxInt}, {math.MinInt, 0}, {1 << 32}, {-1 << 32, 0}}
	var each, twice, descending []int
	for i := range n {
		each, twice, descending = append(each, i), append(twice, i, i), append([]int{i}, descending...)
	}
	all = append(all, append(slices.Clone(each), n), append([]int{-1}, each...), append(each, each...), twice, make([]int, 7), make([]int, 100))
	if n > 1 {
		all = append(all, descending, []int{1, 0}, []int{n - 1, 0}, []int{0, n - 1, 0}, []int{0, n - 1, n - 1}, []int{0, 0, n - 1})
	}
	return all
}

// one is a list of the polynomial 1.
func one(n int) []api.Term {
	return []api.Term{{C: fraction.Of(1), E: make([]int, n)}}
}

// wrongForms do not have n integers.
func wrongForms(n int) [][]int {
	all := [][]int{make([]int, n+1), make([]int, n-1), slices.Repeat([]int{1}, n+1), slices.Repeat([]int{-1}, n-1), make([]int, n+2), make([]int, 2*n), make([]int, 1000)}
	return append(all, nil, []int{})
}

// The ring comes first, whatever the polynomials, u, the form and the fuel are.
func TestRings(t *testing.T) {
	t.Parallel()
	good := []api.Term{{C: fraction.Of(1), E: []int{0, 1}}}
	polynomials := append(append(zeros(2), wrongPolynomials(2)...), good)
	for _, r := range wrongRings() {
		for _, u := range [][]int{nil, {0}, {0, 1}, {-1}, {2}, {1, 0}} {
			for _, fuel := range []int{0, 5, api.MaxFuel, -1, api.MaxFuel + 1} {
				for _, form := range [][]int{nil, {}, {1}, {0, 1}, {1, 2, 3}, make([]int, 10)} {
					expectNothing(t, question{"Least", r, nil, u, form}, fuel, api.ErrRing)
					expectNothing(t, question{"Least", r, [][]api.Term{good}, u, form}, fuel, api.ErrRing)
				}
				expectError(t, r, nil, u, fuel, api.ErrRing)
				expectError(t, r, [][]api.Term{}, u, fuel, api.ErrRing)
				for _, p := range polynomials {
					expectError(t, r, [][]api.Term{p}, u, fuel, api.ErrRing)
					expectError(t, r, [][]api.Term{good, p, p}, u, fuel, api.ErrRing)
				}
			}
		}
	}
}

// A wrong monomial in any element comes before all but the ring: before fuel, u and a
// form that may not be, before a u of all variables, beside a constant, and with six
// variables.
func TestPolynomials(t *testing.T) {
	t.Parallel()
	for _, r := range allRings() {
		n := len(r.Names)
		great := power(n-1, limit).terms(r)
		for k, p := range wrongPolynomials(n) {
			u := append(wrongSets(n), allSets(n)...)[k%(len(wrongSets(n))+1<<n)]
			for _, fuel := range []int{0, 5, -1, api.MaxFuel + 1} {
				expectError(t, r, [][]api.Term{p}, u, fuel, api.ErrPoly)
				expectError(t, r, [][]api.Term{p, p}, u, fuel, api.ErrPoly)
				expectError(t, r, [][]api.Term{p, one(n), one(n)}, u, fuel, api.ErrPoly)
				expectError(t, r, [][]api.Term{one(n), p, one(n)}, u, fuel, api.ErrPoly)
				expectError(t, r, [][]api.Term{one(n), nil, one(n), p}, u, fuel, api.ErrPoly)
				expectError(t, r, [][]api.Term{great, p}, u, fuel, api.ErrPoly)
				for _, form := range wrongForms(n) {
					expectNothing(t, question{"Least", r, [][]api.Term{one(n), p}, u, form}, fuel, api.ErrPoly)
				}
			}
		}
	}
}

// lists are ideals with which each call ends soon, with each of its errors.
func lists(r api.Ring) [][][]api.Term {
	n := len(r.Names)
	x, great := power(0, 1).terms(r), power(0, limit).terms(r)
	return [][][]api.Term{nil, {}, {nil}, zeros(n), {one(n)}, {x}, {great}, {great, one(n), great}, {one(n), nil, one(n)}, {x, great, power(n-1, 2).terms(r)}}
}

// Fuel that may not be comes before all that is wrong with the ideal: before ErrWhole,
// before ErrPoint, before ErrLong, also if no step would have to be taken; and before
// ErrLong with six variables.
func TestFuelThatMayNotBe(t *testing.T) {
	t.Parallel()
	for _, r := range allRings() {
		n := len(r.Names)
		for _, fuel := range wrongFuels() {
			for k, f := range lists(r) {
				for _, u := range [][]int{allSets(n)[k%(1<<n)], wrongSets(n)[k], allBut(n)} {
					expectError(t, r, f, u, fuel, api.ErrArg)
					expectNothing(t, question{"Least", r, f, u, wrongForms(n)[k%7]}, fuel, api.ErrArg)
				}
			}
		}
	}
	r := lex(2)
	for _, fuel := range wrongFuels() { // and before ErrLong of a basis
		expectError(t, r, parsedList(t, r, "x^2 + y^40000; x*y^40000 + 1"), nil, fuel, api.ErrArg)
	}
}

// So does a u that may not be, also before fuel that is not enough; and a u of all
// variables, which leaves no other ones.
func TestSetsThatMayNotBe(t *testing.T) {
	t.Parallel()
	for _, r := range allRings() {
		n := len(r.Names)
		for _, u := range append(wrongSets(n), allBut(n)) {
			for _, fuel := range []int{0, 7, api.MaxFuel} {
				for k, f := range lists(r) {
					expectError(t, r, f, u, fuel, api.ErrArg)
					expectNothing(t, question{"Least", r, f, u, wrongForms(n)[k%7]}, fuel, api.ErrArg)
					expectNothing(t, question{"Least", r, f, u, nil}, fuel, api.ErrArg)
				}
			}
		}
	}
	r := lex(2)
	for _, u := range append(wrongSets(2), allBut(2)) {
		expectError(t, r, parsedList(t, r, "x^2 + y^40000; x*y^40000 + 1"), u, 100, api.ErrArg)
	}
}

// With six variables there is ErrLong before the first basis is taken, whatever the
// ideal and the fuel are, and before the form is looked at.
func TestSixVariables(t *testing.T) {
	t.Parallel()
	for _, r := range rings(6) {
		for k, u := range parts(6) {
			for _, fuel := range []int{0, 1, 100, api.MaxFuel} {
				for _, f := range lists(r) {
					expectError(t, r, f, u, fuel, api.ErrLong)
				}
				f := parsedList(t, r, "x*y - 1; y^2 - z; z^2 - 2; u; v; w")
				expectError(t, r, f, u, fuel, api.ErrLong)
				expectNothing(t, question{"Least", r, f, u, wrongForms(6 - len(u))[k%7]}, fuel, api.ErrLong)
			}
		}
	}
}

// A form of another length comes before the first basis: before fuel that is not
// enough, before ErrLong of a basis, before ErrWhole and before ErrPoint.
func TestFormsThatMayNotBe(t *testing.T) {
	t.Parallel()
	for n := 1; n <= 5; n++ {
		for _, r := range rings(n) {
			for _, u := range parts(n) {
				for _, form := range wrongForms(n - len(u)) {
					for _, f := range lists(r) {
						expectNothing(t, question{"Least", r, f, u, form}, 0, api.ErrArg)
						expectNothing(t, question{"Least", r, f, u, form}, api.MaxFuel, api.ErrArg)
					}
				}
			}
		}
	}
	r := lex(2)
	for _, form := range wrongForms(2) {
		expectNothing(t, question{"Least", r, parsedList(t, r, "x^2 + y^40000; x*y^40000 + 1"), nil, form}, 100, api.ErrArg)
		expectNothing(t, question{"Least", r, parsedList(t, r, "x*y - 1; y^2 - 1"), nil, form}, 0, api.ErrArg)
	}
}

// Several errors at once: the first one of the list is returned.
func TestOrderOfErrors(t *testing.T) {
	t.Parallel()
	for set := 1; set < 1<<7; set++ {
		has := func(k int) bool { return set>>k&1 == 1 }
		r, u, fuel := lex(3), []int{1}, 0
		if has(5) {
			r = lex(6)
		}
		n := len(r.Names)
		f, form := parsedList(t, r, "x^2 - 2; x*y; 0"), make([]int, n-1)
		want := []api.Errno{api.ErrRing, api.ErrPoly, api.ErrArg, api.ErrArg, api.ErrArg, api.ErrLong, api.ErrArg}
		if has(6) {
			form = []int{4}
		}
		if has(4) {
			u = allBut(n)
		}
		if has(3) {
			u = append([]int{2}, u...)
		}
		if has(2) {
			fuel = -1
		}
		if has(1) {
			f = append(f, wrongPolynomials(n)[set%9])
		}
		if has(0) {
			r.First = 1
		}
		first := slices.IndexFunc([]int{0, 1, 2, 3, 4, 5, 6}, has)
		expectNothing(t, question{"Least", r, f, u, form}, fuel, want[first])
		if !has(6) {
			expectNothing(t, question{"Radical", r, f, u, nil}, fuel, want[first])
			expectNothing(t, question{"Components", r, f, u, nil}, fuel, want[first])
		}
	}
}

// All of the fuel may be given, and none. Without polynomials, and with 0 alone, there
// are infinitely many points, and no step is taken.
func TestArgumentsThatMayBe(t *testing.T) {
	t.Parallel()
	for n := 1; n <= 5; n++ {
		for k, r := range rings(n) {
			for _, u := range parts(n) {
				for _, fuel := range []int{0, 1, 2, api.MaxFuel - 1, api.MaxFuel} {
					all := append([][][]api.Term{nil, {}, zeros(n)}, zerosAlone(n)...)
					for _, f := range [][][]api.Term{all[(k+fuel)%len(all)], all[(k+fuel+5)%len(all)]} {
						for _, set := range [][]int{u, append([]int{}, u...)} {
							expectError(t, r, f, set, fuel, api.ErrPoint)
							expect(t, question{"Least", r, f, set, make([]int, n-len(u))}, fuel, answer{p: power(0, 1), left: fuel})
						}
					}
					whole := answer{e: api.ErrWhole}
					if fuel == 0 { // 1 minus the new variable is divided by 1
						whole.e = api.ErrFuel
					}
					for _, q := range eachCall(r, [][]api.Term{one(n)}, u) {
						expect(t, q, fuel, whole)
					}
				}
			}
		}
	}
}

// zerosAlone are lists of one 0.
func zerosAlone(n int) [][][]api.Term {
	var all [][][]api.Term
	for _, p := range zeros(n) {
		all = append(all, [][]api.Term{p})
	}
	return all
}
