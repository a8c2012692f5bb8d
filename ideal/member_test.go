package ideal_test

import (
	"testing"

	"primrose/api"
)

func TestQ1Member(t *testing.T) {
	expectExamples(t, "Member", lex(2), []example{
		{f: "x; y", h: "x + y", is: true, steps: 3},
		{f: "x; y", h: "x + 1", steps: 2},
		// No polynomial generates the ideal of 0.
		{h: "0", is: true}, {h: "x"}, {h: "3"},
		{f: "0", h: "0", is: true}, {f: "0; 0", h: "1/2"}, {f: "0; x; 0", h: "x", is: true, steps: 1},
		// A constant generates the whole ring.
		{f: "1", h: "x^5", is: true, steps: 1}, {f: "2; x", h: "x*y + y^3", is: true, steps: 3}, {f: "-3", h: "0", is: true},
		{f: "x + 1; x", h: "y^7", is: true, steps: 4},
		// Only the basis shows it.
		{f: "x*y - 1; y^2 - 1", h: "x - y", is: true, steps: 5},
		{f: "x*y - 1; y^2 - 1", h: "x + y", steps: 5},
		{f: "x*y - 1; y^2 - 1", h: "x^3 - y", is: true, steps: 8},
		// One within the other, and not.
		{f: "x^2", h: "x"}, {f: "x", h: "x^2*y - 3*x", is: true, steps: 2}, {f: "x", h: "x + 1", steps: 1}, {f: "x", h: "1"},
	})
}

func TestQ1Subset(t *testing.T) {
	expectExamples(t, "Subset", lex(2), []example{
		{f: "x*y", h: "x", is: true, steps: 1}, {f: "x", h: "x*y"}, {f: "x", h: "x", is: true, steps: 1},
		{f: "x + y; x - y", h: "x; y", is: true, steps: 5}, {f: "x; y", h: "x + y; x - y", is: true, steps: 6},
		// Nothing, and 0.
		{is: true}, {h: "x", is: true}, {f: "x"}, {f: "0; 0", is: true}, {f: "0; x"}, {f: "x; 0"}, {f: "0", h: "0; 0", is: true},
		{f: "0; 0; 0", h: "x; y", is: true, steps: 1}, {f: "x; 0; y; 0", h: "y; x", is: true, steps: 3},
		// The first remainder ends it: at the first element, at a later one, at the last.
		{f: "y; x^2; x*y", h: "x"}, {f: "x^2; x*y; y; x; x", h: "x", steps: 2}, {f: "x^2; x*y; x; x; y", h: "x", steps: 4},
		{f: "x^2; x*y; x; x; x", h: "x", is: true, steps: 5}, {f: "0; x + y; x", h: "x", steps: 1},
		// The whole ring.
		{f: "1; x", h: "x; y", steps: 1}, {f: "x; 1", h: "x; y", steps: 2}, {f: "x; y; 0", h: "3; x", is: true, steps: 3}, {f: "1", h: "1", is: true, steps: 1},
	})
}

// Behind the first remainder nothing is looked at: neither fuel nor what would be too
// great.
func TestQ1FirstRemainder(t *testing.T) {
	r := lex(3)
	h := parsedList(t, r, "y - z^40000; x")
	for _, f := range []string{"1; y*z^30000", "0; z; y*z^30000; x", "z^65536 - 1; y*z^30000"} {
		q := question{"Subset", r, parsedList(t, r, f), h, 0}
		expectWords(t, q, 0)
		expect(t, q, 1, answer{})
		expect(t, q, 7, answer{left: 6})
	}
	for fuel, want := range []answer{{e: api.ErrFuel}, {e: api.ErrFuel}, {e: api.ErrLong}, {e: api.ErrLong}} {
		q := question{"Subset", r, parsedList(t, r, "0; y*z^30000; 1"), h, 0}
		expect(t, q, fuel, want)
		expectWords(t, q, fuel)
	}
}

// A polynomial is in the ideal of others if it is a sum of their products.
func TestQ1Combinations(t *testing.T) {
	t.Parallel()
	s, members, others := noise(31), 0, 0
	for _, r := range allRings() {
		n := len(r.Names)
		for k := range 25 {
			f := s.samples(2+k%2, n, 3, 3, 1+k%4)
			p := sum{}
			for _, x := range f {
				p = plus(p, times(x, s.sample(n, 2, 2, 3)))
			}
			in := question{"Member", r, s.anyForms(r, f), [][]api.Term{s.anyForm(r, p)}, 0}
			if a := expectWords(t, in, 120); a.e == api.OK {
				if !a.is {
					t.Fatalf("Q1: %v is not in the ideal of %v", p, f)
				}
				members++
			}
			in.h[0] = s.anyForm(r, plus(p, s.sample(n, 1, 3, 3)))
			if a := expectWords(t, in, 120); a.e == api.OK && !a.is {
				others++
			}
		}
	}
	if members < 400 || others < 100 {
		t.Errorf("only %d members, and %d others", members, others)
	}
}
