package ideal_test

import (
	"testing"

	"primrose/api"
)

func TestQ5Examples(t *testing.T) {
	expectExamples(t, "Quotient", lex(2), []example{
		// By none: no step is taken.
		{g: "1"}, {f: "x*y", g: "1"}, {f: "0; 0", g: "1"}, {f: "3; x", g: "1"},
		// By one.
		{f: "x*y", h: "x", g: "y", steps: 8}, {f: "0; x*y", h: "x", g: "y", steps: 8}, {f: "x^2; x*y", h: "x", g: "y; x", steps: 27},
		{f: "x^2 - y^2", h: "x + y", g: "x - y", steps: 11}, {f: "x^2; y^2", h: "x + y", g: "y^2; x - y", steps: 39},
		// By several.
		{f: "x*y", h: "y; x", g: "x*y", steps: 16}, {f: "x^2; x*y", h: "x; y", g: "x", steps: 43}, {f: "x^2; y^2", h: "x; y", g: "y^2; x*y; x^2", steps: 70},
		{f: "x", h: "x; x", g: "1", steps: 14},
		// By 0, alone and with others: each of them is one more intersection.
		{f: "x", h: "0", g: "1", steps: 3}, {h: "0", g: "1", steps: 3}, {f: "x*y", h: "0; 0", g: "1", steps: 6}, {f: "x*y", h: "0; x; 0", g: "y", steps: 14},
		// By a polynomial of the ideal, and by one that shares nothing with it.
		{f: "x*y", h: "x*y", g: "1", steps: 7}, {f: "x; y", h: "x^2 + y", g: "1", steps: 14}, {f: "x", h: "y", g: "x", steps: 8}, {f: "x^2; x*y", h: "y", g: "x", steps: 12},
		// Of the ideal of 0, and of the whole ring; by the whole ring.
		{h: "x"}, {h: "1"}, {h: "x; y"}, {f: "0", h: "x*y - 1"}, {f: "1", h: "x", g: "1", steps: 7},
		{f: "x; y", h: "1", g: "y; x", steps: 25}, {f: "x; y", h: "2; x", g: "y; x", steps: 44},
	})
}

// Each element of h is one that f is divided by, also if it is there more than once,
// and the result so far comes first in the intersection.
func TestQ5Order(t *testing.T) {
	s, finished, different := noise(42), 0, 0
	for _, r := range rings(2) {
		for k := range 20 {
			f, h := s.samples(2, 2, 2, 3, 2), s.samples(2, 2, 2, 2, 2)
			if k%4 == 0 {
				h = append(h, h[0])
			}
			a := expectWords(t, question{"Quotient", r, s.anyForms(r, f), s.anyForms(r, h), 0}, 500)
			h[0], h[1] = h[1], h[0]
			b := expectWords(t, question{"Quotient", r, s.anyForms(r, f), s.anyForms(r, h), 0}, 500)
			if a.e == api.OK && b.e == api.OK {
				finished++
				if a.left != b.left {
					different++
				}
			}
		}
	}
	if finished < 30 || different < 20 {
		t.Errorf("%d samples, of which %d tell the order", finished, different)
	}
}

// A multiple of p divided by p.
func TestQ5Multiples(t *testing.T) {
	s := noise(43)
	for n := 1; n <= 5; n++ {
		for _, r := range rings(n) {
			for range 6 {
				p, q := s.sample(n, 2, 3, 4), s.sample(n, 2, 3, 4)
				if len(p) == 0 || len(q) == 0 {
					continue
				}
				f := s.anyForms(r, []sum{times(p, q)})
				expectForms(t, question{"Quotient", r, f, s.anyForms(r, []sum{p}), 0}, []sum{monic(r, q)})
				expectForms(t, question{"Quotient", r, f, s.anyForms(r, []sum{p, constant(s.fraction(3))}), 0}, []sum{monic(r, times(p, q))})
			}
		}
	}
}

// expectForms expects a list of polynomials, whatever remains.
func expectForms(t *testing.T, q question, want []sum) {
	t.Helper()
	if a := q.ask(api.MaxFuel); a.e != api.OK || !areForms(q.r, a.g, want) {
		t.Fatalf("%s of %s and %s, %d in %v: %s, %d, not %s", q.call, printedList(q.r, q.f), printedList(q.r, q.h), q.k, q.r,
			printedList(q.r, a.g), a.e, printedList(q.r, termsOf(q.r, want)))
	}
}
