package ideal_test

import (
	"testing"

	"primrose/api"
)

func TestQ3Examples(t *testing.T) {
	expectExamples(t, "Eliminate", lex(2), []example{
		// Of no variables.
		{f: "x - y^2; x", g: "y^2; x", steps: 4}, {f: "x; y", g: "y; x", steps: 1}, {}, {f: "0; 0"},
		{f: "x*y - 1; y^2 - 1", g: "y^2 - 1; x - y", steps: 4}, {f: "1; x", g: "1", steps: 1}, {f: "x - y^3", g: "x - y^3"},
		// Of the first one.
		{f: "x - y^2; x", k: 1, g: "y^2", steps: 4}, {f: "x; y", k: 1, g: "y", steps: 1}, {k: 1}, {f: "0; 0", k: 1},
		{f: "x*y - 1; y^2 - 1", k: 1, g: "y^2 - 1", steps: 4}, {f: "y^2 - 1; 0; x^3 - y", k: 1, g: "y^2 - 1", steps: 1},
		{f: "x - y^3", k: 1}, {f: "x^2 + y", k: 1}, {f: "2*y^2 - 6*y", k: 1, g: "y^2 - 3*y"}, {f: "y^2; y^3 - y", k: 1, g: "y", steps: 4},
		{f: "1; x", k: 1, g: "1", steps: 1}, {f: "x + 1; x", k: 1, g: "1", steps: 3},
		// Of all: what remains is nothing, or the whole ring.
		{f: "x - y^2; x", k: 2, steps: 2}, {f: "x; y", k: 2, steps: 1}, {k: 2}, {f: "0; 0", k: 2}, {f: "x - y^3", k: 2}, {f: "y^2 - 1; 0; x^3 - y", k: 2, steps: 1},
		{f: "x*y - 1; y^2 - 1", k: 2, steps: 4}, {f: "1; x", k: 2, g: "1", steps: 1}, {f: "x + 1; x", k: 2, g: "1", steps: 3}, {f: "-5", k: 2, g: "1"},
	})
}

// The elements of a curve, (s, s^2, s^3), and their equations; and what is constant
// on it. Whatever the ring's own order is, the same ideal remains.
func TestQ3Curves(t *testing.T) {
	for _, r := range rings(4) {
		f := parsedList(t, r, "y - x^2; z - x^3; u - x^4 + 1")
		for k, generators := range []string{"x^2 - y; x*y - z; x^4 - u - 1", "y^2 - u - 1; y^3 - z^2; y*u + y - z^2; z^2*y - (u + 1)^2", "z^4 - (u + 1)^3", "", ""} {
			want, _, e := sumOfIdeals(r, parsedList(t, r, generators))
			a := expectWords(t, question{"Eliminate", r, f, nil, k}, 5000)
			if e != api.OK || a.e != api.OK || !areForms(r, want, a.g) {
				t.Errorf("Q3: %d of %v in %v: %s, not %s", k, f, r, printedList(r, termsOf(r, a.g)), printedList(r, want))
			}
		}
	}
}

// sumOfIdeals is the reduced basis of polynomials.
func sumOfIdeals(r api.Ring, f [][]api.Term) (g [][]api.Term, left int, e api.Errno) {
	a := question{"Sum", r, f, nil, 0}.ask(5000)
	return a.g, a.left, a.e
}

// In one variable, and in six, which have no wider ring.
func TestQ3FirstAndLast(t *testing.T) {
	for _, r := range rings(1) {
		expectExamples(t, "Eliminate", r, []example{
			{f: "x^2 - 1; x^3 - 1", g: "x - 1", steps: 5}, {f: "x^2 - 1; x^3 - 1", k: 1, steps: 5}, {f: "x; x - 1", k: 1, g: "1", steps: 3}, {f: "x", k: 1},
		})
	}
	for _, r := range rings(6) {
		f := parsedList(t, r, "x - y; y - z; z - u; u - v; v - w; w^2 - 2")
		for k := range 7 {
			want := parsedList(t, r, "w^2 - 2; v - w; u - w; z - w; y - w; x - w")[:max(0, 6-k)]
			q := question{"Eliminate", r, f, nil, k}
			a := q.ask(1000)
			if g, _, e := sumOfIdeals(r, want); e != api.OK || a.e != api.OK || !areEqualLists(a.g, g) {
				t.Errorf("Q3: %d in %v: %s, %d, not %s", k, r, printedList(r, a.g), a.e, printedList(r, g))
			}
			expectWords(t, q, 1000)
			expectWords(t, q, 30)
		}
	}
}

// The basis for elimination is taken in the ring with another Order, and the second
// one in r: both show in the number of steps.
func TestQ3Orders(t *testing.T) {
	t.Parallel()
	s, different := noise(33), 0
	for _, r := range rings(3) {
		for i := range 40 {
			f := s.anyForms(r, s.samples(3, 3, 3, 3, 1+i%3))
			for k := range 4 {
				a := expectWords(t, question{"Eliminate", r, f, nil, k}, 200)
				if b := (question{"Eliminate", lex(3), f, nil, k}).words(200); a.e == api.OK && b.e == api.OK && a.left != b.left {
					different++
				}
			}
		}
	}
	if different < 30 {
		t.Errorf("only %d samples tell the order", different)
	}
}
