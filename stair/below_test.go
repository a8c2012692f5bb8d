package stair_test

import (
	"slices"
	"testing"

	"primrose/api"
	"primrose/mono"
)

// The monomials' order by each of the orders.
func TestR3Orders(t *testing.T) {
	for _, x := range []struct {
		order, first int
		f, below     string
	}{
		{api.Lex, 0, "x^2; y^3; z^2", "1 z y y*z y^2 y^2*z x x*z x*y x*y*z x*y^2 x*y^2*z"},
		{api.Grlex, 0, "x^2; y^3; z^2", "1 z y x y*z y^2 x*z x*y y^2*z x*y*z x*y^2 x*y^2*z"},
		{api.Grevlex, 0, "x^2; y^3; z^2", "1 z y x y*z x*z y^2 x*y y^2*z x*y*z x*y^2 x*y^2*z"},
		{api.Block, 1, "x^2; y^3; z^2", "1 z y y*z y^2 y^2*z x x*z x*y x*y*z x*y^2 x*y^2*z"},
		{api.Block, 2, "x^2; y^3; z^2", "1 z y y*z x x*z y^2 y^2*z x*y x*y*z x*y^2 x*y^2*z"},
		{api.Lex, 0, "x^2; y^2; z^3", "1 z z^2 y y*z y*z^2 x x*z x*z^2 x*y x*y*z x*y*z^2"},
		{api.Block, 1, "x^2; y^2; z^3", "1 z y z^2 y*z y*z^2 x x*z x*y x*z^2 x*y*z x*y*z^2"},
		{api.Block, 2, "x^2; y^2; z^3", "1 z z^2 y y*z y*z^2 x x*z x*z^2 x*y x*y*z x*y*z^2"},
		{api.Grlex, 0, "x^2; y^2; z^3", "1 z y x z^2 y*z x*z x*y y*z^2 x*z^2 x*y*z x*y*z^2"},
		{api.Grevlex, 0, "x^2; y^2; z^3", "1 z y x z^2 y*z x*z x*y y*z^2 x*z^2 x*y*z x*y*z^2"},
		{api.Grlex, 0, "x; y; z", "1"},
		{api.Lex, 0, "x - 1; y - 2; z^4 - z", "1 z z^2 z^3"},
		{api.Block, 2, "x^4 + z; y - 2*z; z - 5", "1 x x^2 x^3"},
	} {
		r := api.Ring{Names: letters(3), Order: x.order, First: x.first}
		expectKnown(t, r, []known{{f: x.f, below: x.below}})
	}
}

// Monomials of several variables among the leading ones.
func TestR3Stairs(t *testing.T) {
	r := lex(2)
	expectKnown(t, r, []known{
		{f: "x^3; x*y^2; y^5", below: "1 y y^2 y^3 y^4 x x*y x^2 x^2*y"},
		{f: "x^2; x*y; y^3", below: "1 y y^2 x"},
		{f: "x; x*y; y^3", below: "1 y y^2"},
		{f: "x^4; x^3*y; x^2*y^2; x*y^3; y^4", below: "1 y y^2 y^3 x x*y x*y^2 x^2 x^2*y x^3"},
		{f: "x*y - 1; y^2 - 1", below: "1 y"},
		{f: "x^2 + y^2 - 5; x*y - 2", below: "1 y y^2 y^3"},
	})
	for _, r := range rings(1) {
		expectKnown(t, r, []known{
			{f: "x", below: "1"}, {f: "x^3 - 1", below: "1 x x^2"}, {f: "x^6 - 1; x^4 - 1", below: "1 x"}, {f: "5*x - 7", below: "1"},
		})
	}
	expectKnown(t, api.Ring{Names: letters(4), Order: api.Grevlex}, []known{
		{f: "x^2; y^2; z^2; u^2; x*y*z; x*y*u; x*z*u; y*z*u", below: "1 u z y x z*u y*u x*u y*z x*z x*y"},
	})
}

// A power of each variable but one is missing, whatever other leading monomials
// there are: ErrPoint, also if there are far too many monomials, and if the missing
// variable is in others.
func TestR3OneMissing(t *testing.T) {
	for _, r := range allRings() {
		n := len(r.Names)
		for i := range n {
			for _, size := range []int{1, 2, 1001, limit} {
				f := slices.Delete(powersOf(r, size), i, i+1)
				expectNothing(t, "Below", r, f, 100, api.ErrPoint)
				expect(t, "Dim", r, f, 100, reply{dim: 1, left: 100 - len(f)*(len(f)-1)/2})
				expect(t, "Independent", r, f, 100, reply{set: []int{i}, left: 100 - len(f)*(len(f)-1)/2})
				if n > 1 && size > 1 {
					f = append(f, times(power(i, 1), power((i+1)%n, 1)).terms(r))
					expectNothing(t, "Below", r, f, 100, api.ErrPoint)
				}
				f = append(f, power(i, 1).terms(r))
				expect(t, "Dim", r, f, 100, reply{left: 100 - len(f)*(len(f)-1)/2})
			}
		}
	}
}

// box is the powers of variables that leave a product of so many monomials.
func box(r api.Ring, sides []int) [][]api.Term {
	var f [][]api.Term
	for i, n := range sides {
		f = append(f, power(i, n).terms(r))
	}
	return f
}

// expectNumber expects so many monomials below, or ErrLong if they are too many, as
// by the words of the chapter.
func expectNumber(t *testing.T, r api.Ring, f [][]api.Term, want int) {
	t.Helper()
	expectWords(t, r, f, 1000)
	a := ask("Below", r, f, 1000)
	switch {
	case want > 1000:
		expectNothing(t, "Below", r, f, 1000, api.ErrLong)
	case a.e != api.OK || len(a.below) != want:
		t.Fatalf("R3: %d monomials below %s in %v, not %d: %d", len(a.below), printedList(r, f), r, want, a.e)
	}
}

// 1000 monomials are returned, one more is too many, and so are far more.
func TestR3Limit(t *testing.T) {
	t.Parallel()
	for _, sides := range [][]int{
		{999}, {1000}, {1001}, {1002}, {2000}, {1 << 10}, {limit - 1}, {limit},
		{1, 1000}, {1000, 1}, {1, 1001}, {1001, 1}, {25, 40}, {91, 11}, {2, 500}, {2, 501}, {11, 91}, {limit, 1}, {1, limit}, {limit, limit},
		{10, 10, 10}, {7, 11, 13}, {1, 1000, 1}, {1, 1, 1001}, {9, 10, 11}, {10, 10, 11}, {limit, limit, limit},
		{2, 5, 10, 10}, {4, 5, 5, 10}, {1, 7, 11, 13}, {4, 6, 6, 7}, {limit, 1, 1, limit},
		{2, 2, 2, 5, 25}, {2, 4, 5, 5, 5}, {7, 1, 11, 1, 13}, {3, 4, 4, 4, 5},
		{2, 2, 2, 5, 5, 5}, {5, 2, 5, 2, 5, 2}, {1, 1, 1, 1, 1, 1000}, {1, 1, 1, 1, 1, 1001}, {1000, 1, 1, 1, 1, 1}, {1001, 1, 1, 1, 1, 1},
		{7, 11, 13, 1, 1, 1}, {1, 1, 13, 1, 11, 7}, {3, 3, 3, 3, 3, 4}, {3, 3, 3, 3, 3, 5}, {4, 4, 4, 4, 4, 4}, {limit, limit, limit, limit, limit, limit},
	} {
		number := 1
		for _, n := range sides {
			number = min(2000, number*n)
		}
		for _, r := range rings(len(sides)) {
			expectNumber(t, r, box(r, sides), number)
		}
	}
}

// Not only powers: with the products of all pairs the powers of the variables alone
// stay below.
func TestR3LimitOfStairs(t *testing.T) {
	t.Parallel()
	for _, sides := range [][]int{
		{500, 501}, {501, 501}, {1000, 1}, {2, 999}, {2, 1000}, {limit, limit}, {1, 1001},
		{300, 400, 302}, {300, 400, 303}, {200, 200, 200, 200, 204}, {200, 200, 200, 200, 205},
		{160, 170, 165, 200, 150, 160}, {160, 170, 165, 200, 150, 161}, {limit, 2, 2, 2, 2, 2},
	} {
		number := 1
		for _, n := range sides {
			number = min(2000, number+n-1)
		}
		for _, r := range rings(len(sides)) {
			f := box(r, sides)
			for k := range sides {
				for i := range k {
					f = append(f, times(power(i, 1), power(k, 1)).terms(r))
				}
			}
			expectNumber(t, r, f, number)
		}
	}
}

// ofDegree are the monomials in n variables of a degree.
func ofDegree(n, degree int) []key {
	if n == 1 {
		return []key{{degree}}
	}
	var all []key
	for last := range degree + 1 {
		for _, e := range ofDegree(n-1, degree-last) {
			e[n-1] = last
			all = append(all, e)
		}
	}
	return all
}

// All monomials of a degree: those of less are below.
func TestR3Degrees(t *testing.T) {
	t.Parallel()
	for _, x := range []struct{ n, degree, number int }{
		{1, 1000, 1000}, {1, 1001, 1001}, {2, 44, 990}, {2, 45, 1035}, {3, 17, 969}, {3, 18, 1140}, {6, 1, 1}, {6, 4, 84}, {4, 6, 126},
	} {
		for _, r := range rings(x.n) {
			var f [][]api.Term
			for _, e := range ofDegree(x.n, x.degree) {
				f = append(f, sum{e: rat(1, 1)}.terms(r))
			}
			a := ask("Below", r, f, api.MaxFuel)
			switch {
			case x.number > 1000:
				expectNothing(t, "Below", r, f, api.MaxFuel, api.ErrLong)
			case a.e != api.OK || len(a.below) != x.number || a.left != api.MaxFuel-len(f)*(len(f)-1)/2:
				t.Errorf("R3: %d below degree %d in %v: %d", len(a.below), x.degree, r, a.e)
			}
			expectAscending(t, r, a.below)
			for _, e := range a.below {
				if mono.Degree(e) >= x.degree {
					t.Errorf("R3: %v in %v", e, r)
				}
			}
		}
	}
}

// expectAscending expects monomials in strictly ascending order.
func expectAscending(t *testing.T, r api.Ring, l [][]int) {
	t.Helper()
	for k := 1; k < len(l); k++ {
		if compare(r, l[k-1], l[k]) >= 0 || mono.Cmp(r, l[k-1], l[k]) >= 0 {
			t.Fatalf("R3: %v before %v in %v", l[k-1], l[k], r)
		}
	}
}

// Random ideals of monomials, some of them with powers of all variables.
func TestR3Samples(t *testing.T) {
	t.Parallel()
	s, tooLong, points, answered := noise(31), 0, 0, 0
	for _, r := range allRings() {
		n := len(r.Names)
		for k := range 60 {
			var f []sum
			high := []int{3, 5, 9, 40, 1200}[k%5]
			for range s.below(6) {
				f = append(f, s.monomial(n, high))
			}
			for i := range n {
				if s.below(12) > 0 {
					f = append(f, power(i, 1+s.below(high)))
				}
			}
			f = s.shuffled(f)
			expectWords(t, r, s.anyForms(r, f), 200)
			switch a := ask("Below", r, termsOf(r, f), 200); a.e {
			case api.ErrLong:
				tooLong++
			case api.ErrPoint:
				points++
			default:
				answered++
				expectAscending(t, r, a.below)
			}
		}
	}
	if tooLong < 200 || points < 200 || answered < 500 {
		t.Errorf("only %d with too many, %d with infinitely many and %d others", tooLong, points, answered)
	}
}

// monomial makes one with some of n variables, and exponents below high.
func (s *noise) monomial(n, high int) sum {
	var e key
	for i := range n {
		if s.below(2) == 0 {
			e[i] = s.below(high)
		}
	}
	if e == (key{}) {
		e[s.below(n)] = 1 + s.below(high)
	}
	return sum{e: s.fraction(5)}
}

// The names of the variables do not matter.
func TestR3Names(t *testing.T) {
	f := parsedList(t, lex(2), "x^3; x*y^2; y^5")
	want := wordsOf("Below", lex(2), find(lex(2), f, 5))
	for _, names := range [][]string{{"Z9", "abcdefgh"}, {"y", "x"}, {"t", "tt"}} {
		expect(t, "Below", api.Ring{Names: names}, f, 5, want)
	}
}
