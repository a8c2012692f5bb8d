package primary_test

import (
	"slices"
	"strings"
	"testing"

	"primrose/api"
	"primrose/basis"
	"primrose/primary"
)

// reduced is the reduced basis.
func reduced(t *testing.T, r api.Ring, f [][]api.Term) [][]api.Term {
	t.Helper()
	g, _, e := basis.Reduced(r, f, api.MaxFuel)
	if e != api.OK {
		t.Fatalf("%s in %v: %d", printedList(r, f), r, e)
	}
	return g
}

// parsedComponents are components of a text with slashes between them, in each of which
// Q stands before a bar, and P behind it, or there is P alone.
func parsedComponents(t *testing.T, r api.Ring, text string) []api.Component {
	t.Helper()
	var l []api.Component
	for part := range strings.SplitSeq(text, " / ") {
		q, p, ok := strings.Cut(part, " | ")
		if !ok {
			p = q
		}
		l = append(l, api.Component{Q: reduced(t, r, parsedList(t, r, q)), P: reduced(t, r, parsedList(t, r, p))})
	}
	return l
}

// settled is what the words make of components that are found.
func settled(r api.Ring, found []api.Component, fuel int) (a reply, way told) {
	c := &words{r: r, left: fuel}
	defer func() {
		if x := recover(); x != nil {
			a = reply{e: x.(api.Errno)}
		}
		way = c.told
	}()
	a.l = c.settle(slices.Clone(found))
	a.left = c.left
	return a, way
}

// expectSettled expects what becomes of components, with each amount of fuel.
func expectSettled(t *testing.T, r api.Ring, found, want string) told {
	t.Helper()
	l := parsedComponents(t, r, found)
	all, way := settled(r, l, api.MaxFuel)
	if text := printedComponents(r, all.l); text != want {
		t.Errorf("U1: %s becomes %s, not %s", found, text, want)
	}
	steps := api.MaxFuel - all.left
	for fuel := range steps + 2 {
		a, _ := settled(r, l, fuel)
		got, left, e := primary.Settle(r, l, fuel)
		if e != a.e || e == api.OK && !areSameReplies(reply{l: got, left: left}, a) || e != api.OK != (fuel < steps) {
			t.Fatalf("U1: %s with %d of %d: %s, %d, error %d", found, fuel, steps, printedComponents(r, got), left, e)
		}
	}
	return way
}

// Components with the same P become one, whose Q is the intersection: of Qs that are the
// same, that are within each other, and that are not, also of three of them.
func TestU1Merge(t *testing.T) {
	t.Parallel()
	for _, x := range []struct {
		found, want string
		merged      []string
	}{
		{"x^2 | x / x^2 | x", "x^2 | x", []string{"same"}},
		{"x^2 | x / x | x", "x^2 | x", []string{"within"}},
		{"x | x / x^2 | x", "x^2 | x", []string{"around"}},
		{"x^2; y | x; y / x; y^2 | x; y", "y^2; x*y; x^2 | y; x", []string{"beside"}},
		{"x^2; y | x; y / x; y^2 | x; y / x - y; x^2 | x; y", "y^2; x*y; x^2 | y; x", []string{"beside", "within"}},
		{"x^3; y | x; y / x; y^3 | x; y / x - y; x^3 | x; y", "y^3; x*y^2; x^2*y; x^3 | y; x", []string{"beside", "beside"}},
		{"x; y / x^2; y | x; y / x; y^2 | x; y", "y^2; x*y; x^2 | y; x", []string{"around", "beside"}},
		{"x^2; y | x; y / x; y | x; y / x; y^2 | x; y", "y^2; x*y; x^2 | y; x", []string{"within", "beside"}},
		// Others stand between them, before and behind them.
		{"y / x^2 | x / y - 1 / x^3 | x / x + 1", "y / x^3 | x / y - 1 / x + 1", []string{"around"}},
		{"y^2 | y / x^2 | x / y | y / x^3 | x / x | x", "y^2 | y / x^3 | x", []string{"within", "around", "within"}},
		{"x^2; y^2 | x; y / y | y / x; y^3 | x; y", "y / y^3; x*y^2; x^2 | y; x", []string{"beside"}},
		// Ps that are the same but for a number, a term or a polynomial are others.
		{"x - 1 / x - 2 / x", "x / x - 2 / x - 1", nil}, {"x; y / x; y - 1", "y; x / y - 1; x", nil}, {"x^2 - 2 / x^2 - 3", "x^2 - 3 / x^2 - 2", nil},
	} {
		r := lex(2)
		if way := expectSettled(t, r, x.found, x.want); !slices.Equal(way.merged, x.merged) {
			t.Errorf("U1: %s: %v, not %v", x.found, way.merged, x.merged)
		}
	}
}

// Redundant components are removed from the last one on: at the end, in the middle and at
// the beginning, several of them, and all but one.
func TestU1Redundant(t *testing.T) {
	t.Parallel()
	for _, x := range []struct {
		found, want string
		removed     []int
		passed      []int
	}{
		{"x", "x", nil, nil},
		{"x / y", "y / x", nil, []int{0, 0}},
		{"x / y / x; y^2 | x; y", "y / x", []int{2}, []int{0, 0}},
		{"x / x; y^2 | x; y / y", "y / x", []int{1}, []int{0, 0}},
		{"x; y^2 | x; y / x / y", "y / x", []int{0}, []int{0, 0}},
		{"x; y^2 | x; y / x / x; y - 1 / y / x - 1; y", "y / x", []int{4, 2, 0}, []int{0, 0}},
		{"x / x; y | x; y / x; y - 1", "x", []int{2, 1}, nil},
		{"x; y / x / x; y - 1", "x", []int{2, 0}, nil},
		{"x; y / x; y - 1 / x", "x", []int{1, 0}, nil},
		{"x / x^2 | x; y", "x^2 | y; x", []int{0}, []int{0}},
		// The first one would be redundant, too, but only while a later one is there.
		{"x / x | y", "x", []int{1}, nil},
		{"x*y | x / x*y | y / x*y | x; y", "x*y | x", []int{2, 1}, nil},
		{"x*y | x / x | x; y / y", "x*y | x", []int{2, 1}, nil},
		{"x | x - 1 / y | y - 1 / x*y | x; y", "y | y - 1 / x | x - 1", []int{2}, []int{0, 0}},
		{"x*y | x - 1 / x | x / y | y - 1", "x*y | x - 1", []int{2, 1}, nil},
	} {
		r := lex(2)
		way := expectSettled(t, r, x.found, x.want)
		if !slices.Equal(way.removed, x.removed) || x.passed != nil && !slices.Equal(way.passed, x.passed) {
			t.Errorf("U1: %s: %v and %v, not %v and %v", x.found, way.removed, way.passed, x.removed, x.passed)
		}
	}
}

// The first remainder that is not 0 ends the division, at whatever place it is: what
// stands behind it takes no steps, and so it is with the test for minimal primes.
func TestU1FirstRemainder(t *testing.T) {
	t.Parallel()
	r := lex(3)
	for place, q := range []string{"z - 1; y^2; x^2", "z^2; y - 1; x^2", "z^2; y^2; x - 1"} {
		// The basis of the first one is z^2, y^2, x^2, in this order.
		way := expectSettled(t, r, "z^2; y^2; x^2 | x; y; z / "+q+" | "+strings.ReplaceAll(q, "^2", ""), "z^2; y^2; x^2 | z; y; x / "+q+" | "+strings.ReplaceAll(q, "^2", ""))
		if !slices.Equal(way.passed, []int{place, place}) {
			t.Errorf("U1: %s: %v", q, way.passed)
		}
	}
}

// Components are sorted by the numbers of polynomials of their Ps, and then by the first
// polynomials that differ: by their numbers of terms, by monomials, and by coefficients.
func TestU1Sort(t *testing.T) {
	t.Parallel()
	r := lex(3)
	inOrder := []string{
		"y", "x", "y - 7", "y - 1", "y - 1/2", "y + 1/3", "y + 2", "x - 2", "x - 1", "x - z", "x + 3*z", "x - y", "x^2 - 2", "x + y + z",
		"z; x", "z; y + 1", "z; x - 1", "z - 5; x", "z - 1; y", "z - 1; y - 2", "z + 1; x",
		"z; y; x - 1", "z; y - 1; x", "z - 1; y; x",
	}
	for i, p := range inOrder {
		for _, q := range inOrder[:i] {
			// With Qs of which none is redundant.
			for _, found := range []string{"x^5 + 2 | " + p + " / y^5 + 2 | " + q, "x^5 + 2 | " + q + " / y^5 + 2 | " + p} {
				l, _, e := primary.Settle(r, parsedComponents(t, r, found), api.MaxFuel)
				if e != api.OK || len(l) != 2 || printedList(r, l[0].P) != q || printedList(r, l[1].P) != p {
					t.Errorf("U1: %s becomes %s, error %d", found, printedComponents(r, l), e)
				}
			}
		}
	}
}

// Polynomials are compared term by term, in each order.
func TestU1Order(t *testing.T) {
	t.Parallel()
	s, equal, less := noise(6), 0, 0
	for n := 1; n <= 5; n++ {
		for _, r := range rings(n) {
			for range 300 {
				p, q := s.sample(r, 4, 3), s.sample(r, 4, 3)
				if s.below(2) == 0 { // with the same first terms
					q = plus(r, p, s.sample(r, 1, 3))
				}
				if len(p) == 0 || len(q) == 0 {
					continue
				}
				want := compare(r, p, q)
				if got := primary.Compare(r, p, q); got != want || primary.Compare(r, q, p) != -want {
					t.Fatalf("U1: %s and %s in %v: %d, not %d", printed(r, p), printed(r, q), r, got, want)
				}
				if want == 0 {
					equal++
				} else if len(p) == len(q) {
					less++
				}
			}
		}
	}
	if equal < 1000 || less < 700 {
		t.Errorf("only %d that are equal, and %d of the same length", equal, less)
	}
}
