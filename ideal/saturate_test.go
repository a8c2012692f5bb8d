package ideal_test

import (
	"testing"

	"primrose/api"
)

func TestQ6Examples(t *testing.T) {
	expectExamples(t, "Saturate", lex(2), []example{
		// By a polynomial that has nothing to do with the ideal: s is 0.
		{f: "x", h: "y", g: "x", steps: 1}, {f: "x^2; x*y", h: "x + 1", g: "x*y; x^2", steps: 19}, {f: "x; y", h: "x - 1", g: "y; x", steps: 10},
		// s is 1, and more.
		{f: "x^2; x*y", h: "y", g: "x", s: 1, steps: 15}, {f: "0; x*y; 0", h: "y", g: "x", s: 1, steps: 7}, {f: "x^2 - y^2", h: "x - y", g: "x + y", s: 1, steps: 16},
		{f: "x*y - x; y^2 - y", h: "y - 1", g: "y; x", s: 1, steps: 36}, {f: "x^2*y", h: "x", g: "y", s: 2, steps: 14},
		// By a polynomial of the ideal, and by one of which a power is in it.
		{f: "x", h: "x", g: "1", s: 1, steps: 7}, {f: "x; y", h: "x^2 + y", g: "1", s: 1, steps: 19}, {f: "x^2; x*y", h: "x", g: "1", s: 2, steps: 38},
		{f: "x^3", h: "x", g: "1", s: 3, steps: 22}, {f: "x^3*y^2", h: "x*y", g: "1", s: 3, steps: 22}, {f: "x^3; y^2", h: "x + y", g: "1", s: 4, steps: 148},
		// By 0, and by a number.
		{f: "x", h: "0", g: "1", s: 1, steps: 1}, {h: "0", g: "1", s: 1}, {f: "0", h: "0", g: "1", s: 1}, {f: "1", h: "0", g: "1", steps: 1},
		{f: "x", h: "1", g: "x", steps: 1}, {f: "x", h: "-3/2", g: "x", steps: 1}, {h: "5"},
		// Of the ideal of 0, and of the whole ring.
		{h: "x"}, {f: "0; 0", h: "x - y"}, {f: "1", h: "x", g: "1", steps: 1}, {f: "2; y", h: "y", g: "1", steps: 5},
	})
}

// A product with powers of p, and what is left without them.
func TestQ6Powers(t *testing.T) {
	s := noise(44)
	for n := 1; n <= 5; n++ {
		for _, r := range rings(n) {
			for k := range 4 {
				p := minus(power(0, 1), constant(s.fraction(2)))
				q := minus(power(n-1, 2), constant(rat(-1, 3)))
				f := q
				for range k {
					f = times(f, p)
				}
				x := question{"Saturate", r, s.anyForms(r, []sum{f}), s.anyForms(r, []sum{p}), 0}
				if a := x.ask(api.MaxFuel); a.e != api.OK || a.s != k || !areForms(r, a.g, []sum{monic(r, q)}) {
					t.Fatalf("Q6: %v by %v in %v: %s, %d, %d", f, p, r, printedList(r, a.g), a.s, a.e)
				}
				x.f = s.anyForms(r, []sum{f, times(f, p)})
				expectWords(t, x, 400)
				expectWords(t, x, 25)
			}
		}
	}
}

// An ideal that is the saturation already, but whose elements are no basis.
func TestQ6NoBasis(t *testing.T) {
	for _, r := range rings(2) {
		for _, f := range []string{"x + y; x - y", "-2*x", "x*y - 1; y^2 - 1", "x; x; x^2", "y; x"} {
			q := question{"Saturate", r, parsedList(t, r, f), parsedList(t, r, "x - 7*y + 3"), 0}
			g, _, e := sumOfIdeals(r, q.f)
			a := expectWords(t, q, 1000)
			if e != api.OK || a.e != api.OK || a.s != 0 || !areForms(r, g, a.g) {
				t.Errorf("Q6: %s in %v: %v", f, r, a)
			}
		}
	}
}
