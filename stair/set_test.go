package stair_test

import (
	"slices"
	"testing"

	"primrose/api"
)

func TestExamples(t *testing.T) {
	expectKnown(t, lex(3), []known{
		{f: "x*y; x*z", dim: 2, set: []int{1, 2}},
		{f: "1", dim: -1},
		{f: "", dim: 3, set: []int{0, 1, 2}},
	})
	expectKnown(t, lex(2), []known{
		{f: "x^2; x*y; y^2", below: "1 y x"},
		{f: "x", dim: 1, set: []int{1}},
	})
}

// The whole ring, told by a number, or by polynomials of which only the basis is 1:
// there is no independent set, and there are no monomials.
func TestWholeRing(t *testing.T) {
	for n := 2; n <= 6; n++ {
		for _, r := range rings(n) {
			for _, f := range []string{
				"1", "-5", "2/3", "1; 1", "0; 7; 0", "x; 1", "x^2; y^3; 4", "x^65536; 1/2; y^65536",
				"x; x - 1", "x*y - 1; x; y", "x^2 + 1; x^2", "x*y - 1; x^2; y^5", "y^3 - 2; y^3 - y; y^2 - y",
			} {
				expectKnown(t, r, []known{{f: f, dim: -1}})
			}
		}
	}
	for _, r := range rings(1) {
		for _, f := range []string{"1", "-5", "3; x", "x; x + 1", "x^2 + 1; x^3"} {
			expectKnown(t, r, []known{{f: f, dim: -1}})
		}
	}
}

// The zero ideal: no polynomials, or only such as are 0. All variables are
// independent.
func TestZeroIdeal(t *testing.T) {
	for _, r := range allRings() {
		n := len(r.Names)
		all := allBut(n)
		lists := [][][]api.Term{nil, {}, zeros(n)}
		for _, p := range zeros(n) {
			lists = append(lists, [][]api.Term{p}, [][]api.Term{p, p, nil})
		}
		for _, f := range lists {
			for _, fuel := range []int{0, 1, 77, api.MaxFuel} {
				expect(t, "Dim", r, f, fuel, reply{dim: n, left: fuel})
				expect(t, "Independent", r, f, fuel, reply{set: all, left: fuel})
				expectNothing(t, "Below", r, f, fuel, api.ErrPoint)
			}
		}
	}
}

// What is 0 does not count among others, wherever it stands.
func TestZerosAmongOthers(t *testing.T) {
	for _, r := range allRings() {
		n := len(r.Names)
		f := powersOf(r, 2)
		all, first := find(r, f, 100), find(r, f[:1], 100)
		for _, zero := range zeros(n) {
			for k := range n + 1 {
				with := slices.Insert(slices.Clone(f), k, zero, zero)
				for _, call := range calls() {
					expect(t, call, r, with, 100, wordsOf(call, r, all))
					expect(t, call, r, [][]api.Term{zero, f[0], zero}[k%2:], 100, wordsOf(call, r, first))
				}
			}
		}
	}
}

// Powers of some of the variables: the others are independent. With 1 beside them
// nothing is.
func TestPowersOfVariables(t *testing.T) {
	for _, r := range allRings() {
		n := len(r.Names)
		for code, set := range allSets(n) {
			var f [][]api.Term
			for i := range n {
				if !slices.Contains(set, i) {
					f = append(f, power(i, 1+(i+code)%3).terms(r))
				}
			}
			left := 100 - len(f)*(len(f)-1)/2
			expectWords(t, r, f, 100)
			expect(t, "Dim", r, f, 100, reply{dim: len(set), left: left})
			expect(t, "Independent", r, f, 100, reply{set: set, left: left})
			if len(set) > 0 {
				expectNothing(t, "Below", r, f, 100, api.ErrPoint)
			}
			f = slices.Insert(f, code%(len(f)+1), constant(rat(5, 2)).terms(r))
			left = 100 - len(f)*(len(f)-1)/2
			expect(t, "Dim", r, f, 100, reply{dim: -1, left: left})
			expectNothing(t, "Independent", r, f, 100, api.ErrWhole)
			expect(t, "Below", r, f, 100, reply{left: left})
		}
	}
}

// Of several sets of the same size the one with the first variable that not all of
// them contain is the maximal one, and so on.
func TestR2SameSize(t *testing.T) {
	for n := 2; n <= 6; n++ {
		for _, r := range rings(n) {
			// Each set of all but one, of all but the last one at the latest.
			expectKnown(t, r, []known{{f: "x*y", dim: n - 1, set: allBut(n, 1)}})
			all := constant(rat(1, 1))
			for i := range n {
				all = times(all, power(i, 1+i))
			}
			f := [][]api.Term{all.terms(r)}
			expect(t, "Independent", r, f, 0, reply{set: allBut(n, n-1)})
			expect(t, "Dim", r, f, 0, reply{dim: n - 1})
			// Any two variables alone: those that differ only there.
			for k := range n {
				for i := range k {
					f := [][]api.Term{times(power(i, 2), power(k, 3)).terms(r)}
					expect(t, "Independent", r, f, 0, reply{set: allBut(n, k)})
				}
			}
		}
	}
	for _, r := range rings(6) {
		expectKnown(t, r, []known{
			{f: "v*w", dim: 5, set: []int{0, 1, 2, 3, 4}},
			{f: "u*v; u*w; v*w", dim: 4, set: []int{0, 1, 2, 3}},
			{f: "u*v*w", dim: 5, set: []int{0, 1, 2, 3, 4}},
			{f: "u*v*w; z*u", dim: 5, set: []int{0, 1, 2, 4, 5}},
			{f: "u*v*w; z*u; y*v", dim: 4, set: []int{0, 1, 2, 5}},
			{f: "x; v*w", dim: 4, set: []int{1, 2, 3, 4}},
			{f: "x; y; z; u; v*w", dim: 1, set: []int{4}},
			{f: "x; y^2; z; u^3; v", dim: 1, set: []int{5}},
			{f: "x; y*z; u*v", dim: 3, set: []int{1, 3, 5}},
			{f: "x*y; z*u; v*w", dim: 3, set: []int{0, 2, 4}},
			{f: "x*w; y*v; z*u", dim: 3, set: []int{0, 1, 2}},
			{f: "x*u; x*v; x*w; y*u; y*v; y*w; z*u; z*v; z*w", dim: 3, set: []int{0, 1, 2}},
			{f: "x*y; y*z; z*u; u*v; v*w; w*x", dim: 3, set: []int{0, 2, 4}},
			{f: "x*y; y*z; z*u; u*v; v*w", dim: 3, set: []int{0, 2, 4}},
			{f: "x*y*z; x*y*u; x*z*u; y*z*u", dim: 4, set: []int{0, 1, 4, 5}},
		})
	}
	for _, r := range rings(4) {
		expectKnown(t, r, []known{
			// x and y, x and u, and z and u are independent, y and z are not.
			{f: "x*z; y*z; y*u", dim: 2, set: []int{0, 1}},
			{f: "x*y; x*z; y*u", dim: 2, set: []int{0, 3}},
			// The first variable is in none of them, and then the second one.
			{f: "x*y; x*z; x*u; y*z*u", dim: 2, set: []int{1, 2}},
			{f: "x; y; z*u", dim: 1, set: []int{2}},
			{f: "x*y; x*z; x*u; y*z; y*u", dim: 2, set: []int{2, 3}},
		})
	}
}

// A set that can't be enlarged may have fewer variables than the maximal one.
func TestR1SetsThatCannotBeEnlarged(t *testing.T) {
	for _, r := range rings(3) {
		expectKnown(t, r, []known{
			{f: "x*y; x*z", dim: 2, set: []int{1, 2}}, {f: "y*x; y*z", dim: 2, set: []int{0, 2}}, {f: "z*x; z*y", dim: 2, set: []int{0, 1}},
		})
	}
	for _, r := range rings(6) {
		expectKnown(t, r, []known{
			{f: "x*y; x*z; x*u; x*v; x*w", dim: 5, set: []int{1, 2, 3, 4, 5}},
			{f: "x*z; x*u; x*v; x*w; y*z; y*u; y*v; y*w", dim: 4, set: []int{2, 3, 4, 5}},
			{f: "x*y; x*z; x*u; x*v; y*z; y*u; y*v", dim: 4, set: []int{2, 3, 4, 5}},
			{f: "x*y*z; x*u; x*v; x*w", dim: 5, set: []int{1, 2, 3, 4, 5}},
			{f: "x*y; x*z; y*z; x*u; x*v; x*w; y*u*v; y*u*w; y*v*w; z*u*v*w", dim: 3, set: []int{2, 3, 4}},
		})
	}
}

// chains makes the lists of sets of n variables, none of them empty, of which none
// is contained in another one: these are the variables of least monomials.
func chains(n int, from int, chosen []int, do func([]int)) {
	do(chosen)
	for s := from; s < 1<<n; s++ {
		if !slices.ContainsFunc(chosen, func(c int) bool { return c&s == c || c&s == s }) {
			chains(n, s+1, append(slices.Clone(chosen), s), do)
		}
	}
}

// All ideals of monomials in up to 5 variables, but for their exponents.
func TestAllSets(t *testing.T) {
	for n := 1; n <= 5; n++ {
		number, all := 0, rings(n)
		s := noise(21)
		chains(n, 1, nil, func(chosen []int) {
			number++
			r := all[number%len(all)]
			var f []sum
			var leads []key
			for _, c := range chosen {
				var e key
				for i := range n {
					e[i] = (c >> i & 1) * (1 + s.below(3))
				}
				leads = append(leads, e)
				f = append(f, sum{e: s.fraction(4)})
			}
			set, _ := maximal(n, leads)
			steps := len(f) * (len(f) - 1) / 2
			expect(t, "Dim", r, termsOf(r, s.shuffled(f)), steps, reply{dim: len(set)})
			expect(t, "Independent", r, termsOf(r, s.shuffled(f)), steps+3, reply{set: set, left: 3})
		})
		// As many as there are monotone functions of n bits but the one that is true for
		// no variables at all.
		if want := []int{2, 5, 19, 167, 7580}[n-1]; number != want {
			t.Errorf("%d lists of sets of %d variables, not %d", number, n, want)
		}
	}
}

// shuffled is the same polynomials in another order.
func (s *noise) shuffled(f []sum) []sum {
	f = slices.Clone(f)
	for k := range f {
		other := s.below(k + 1)
		f[k], f[other] = f[other], f[k]
	}
	return f
}

// The leading monomials are those of the basis in the order of the ring, not those
// of the polynomials that are given.
func TestLeadingMonomialsOfTheBasis(t *testing.T) {
	names := letters(3)
	for _, x := range []struct {
		order, first int
		all          []known
	}{
		{api.Lex, 0, []known{
			{f: "x - y^2", dim: 2, set: []int{1, 2}}, {f: "x*z - y^3", dim: 2, set: []int{0, 1}},
			{f: "x^2 - y; x^3 - z", dim: 1, set: []int{2}}, {f: "x + y; x - y", dim: 1, set: []int{2}},
			{f: "x*y + 1; x*y + z", dim: 1, set: []int{0}},
		}},
		{api.Grlex, 0, []known{
			{f: "x - y^2", dim: 2, set: []int{0, 2}}, {f: "x*z - y^2", dim: 2, set: []int{0, 1}}, {f: "x*z - y^3", dim: 2, set: []int{0, 2}},
			{f: "x^2 - y; x^3 - z", dim: 1, set: []int{2}},
		}},
		{api.Grevlex, 0, []known{
			{f: "x - y^2", dim: 2, set: []int{0, 2}}, {f: "x*z - y^2", dim: 2, set: []int{0, 2}},
			{f: "x^2 - y; x^3 - z", dim: 1, set: []int{2}},
		}},
		{api.Block, 1, []known{
			{f: "x - y^2", dim: 2, set: []int{1, 2}}, {f: "y - z^2", dim: 2, set: []int{0, 1}}, {f: "x*z - y^2", dim: 2, set: []int{0, 1}},
			{f: "x*y - z^9; x*z - 1", dim: 1, set: []int{0}},
		}},
		{api.Block, 2, []known{
			{f: "x - y^2", dim: 2, set: []int{0, 2}}, {f: "y - z^2", dim: 2, set: []int{0, 2}}, {f: "y - z^2; x - z", dim: 1, set: []int{2}},
		}},
	} {
		expectKnown(t, api.Ring{Names: names, Order: x.order, First: x.first}, x.all)
	}
}
