package extend_test

import (
	"testing"

	"primrose/api"
)

// The wider ring's variable has a name that the ring does not have. Which one it is
// does not show: all calls answer what they do with other names.
func TestNames(t *testing.T) {
	t.Parallel()
	s := noise(50)
	for _, names := range [][]string{
		{"t"}, {"tt"}, {"T"}, {"t", "tt"}, {"tt", "t"}, {"t", "ttt"}, {"tt", "ttt"}, {"t", "T"}, {"t", "tt", "ttt"}, {"ttt", "tt", "t"}, {"tt", "x", "ttt"}, {"t", "tt", "tttt"},
		{"x", "t", "y", "tt"}, {"tttt", "ttt", "tt", "t"}, {"t", "tt", "ttt", "tttt", "ttttt"}, {"ttttt", "tttt", "ttt", "tt", "t"},
		{"t", "tt", "ttt", "tttt", "tttttt"}, {"t1", "t2", "t", "tttttttt", "tt"},
	} {
		n := len(names)
		for _, r := range rings(n) {
			for k := range 2 {
				f := s.sampleIdeal(n, 2)
				if n > 1 && k == 0 {
					f = s.chain(n, s.below(n), 1)
				}
				for _, call := range calls() {
					q := question{call, r, s.anyForms(r, f), s.set(n)}
					want := expectWords(t, q, 300)
					q.r.Names = names
					expect(t, q, 300, want)
					expectWords(t, q, 300)
				}
			}
			q := question{"Contract", r, parsedList(t, r, "x^2 - x; 0"), allBut(n, 0)}
			q.r.Names = names
			expect(t, q, 1, answer{g: []sum{minus(power(0, 2), power(0, 1))}})
		}
	}
}

// With six variables there is no wider ring. It is needed as soon as the basis in the
// reordered ring is found, also if nothing would have to be done in it.
func TestNoWiderRing(t *testing.T) {
	for _, r := range rings(6) {
		for _, x := range []struct {
			f            string
			basis, moved int // steps of the first basis, and of that in the reordered ring
		}{
			{"", 0, 0}, {"0", 0, 0}, {"x", 0, 0}, {"x*y", 0, 0}, {"w - 2", 0, 0}, {"x*y; x^2", 1, 1}, {"x; y; 0; z", 3, 3}, {"x; x", 1, 0}, {"x^65536", 0, 0}, {"x^65536*y; x^2*y^65536", 1, 1},
		} {
			f := parsedList(t, r, x.f)
			for _, u := range [][]int{none, {0}, {1}, {0, 1, 2, 3, 4, 5}, {2, 4, 5}} {
				expectSoon(t, question{"Contract", r, f, u}, x.basis, api.ErrLong)
			}
			expectSoon(t, question{"Halve", r, f, nil}, x.basis+x.moved, api.ErrLong)
		}
		for f, steps := range map[string]int{"1": 0, "3; 2": 1, "u; u - 7": 3} {
			expectSoon(t, question{"Contract", r, parsedList(t, r, f), x}, steps, api.ErrLong)
			expectSoon(t, question{"Halve", r, parsedList(t, r, f), nil}, steps, api.ErrWhole)
		}
		// Degree does without it.
		f := parsedList(t, r, "x^2*u; y^3*u; z^2*v")
		expect(t, question{"Degree", r, f, []int{3, 4, 5}}, 5, answer{n: 12, left: 2})
	}
}

// The maximal independent set takes no steps. To take a basis in r once more would take
// some more than the basis in the reordered ring does, behind which there is ErrLong.
func TestS2NoStepsForTheSet(t *testing.T) {
	expectSoon(t, question{"Halve", lex(6), parsedList(t, lex(6), "x^3 + x; x*y + y^3"), nil}, 8+7, api.ErrLong)
	r := api.Ring{Names: letters(6), Order: api.Block, First: 1}
	expectSoon(t, question{"Halve", r, parsedList(t, r, "x*y - y^3; x^3 - y"), nil}, 7+6, api.ErrLong)
}

// That the ring does not exist is found with as much fuel as the bases before take, and
// nothing else takes any.
func TestNoWiderRingSamples(t *testing.T) {
	t.Parallel()
	s, tried := noise(51), 0
	for _, r := range rings(6) {
		for range 30 {
			f := s.anyForms(r, s.sampleIdeal(6, 2))
			for _, call := range []string{"Contract", "Halve"} {
				q := question{call, r, f, s.set(6)}
				a := q.words(100)
				if a.e != api.ErrFuel {
					tried++
					expectSoon(t, q, len(a.places), a.e)
				}
			}
		}
	}
	if tried < 200 {
		t.Errorf("only %d samples", tried)
	}
}

// expectSoon expects an error as soon as there is so much fuel, and ErrFuel before.
func expectSoon(t *testing.T, q question, steps int, want api.Errno) {
	t.Helper()
	for fuel := range steps {
		expectNothing(t, q, fuel, api.ErrFuel)
	}
	for _, fuel := range []int{steps, steps + 1, 1000, api.MaxFuel} {
		expectNothing(t, q, fuel, want)
	}
	expectWords(t, q, steps)
}

// With five variables there is one, with each set of these.
func TestWiderRingOfSix(t *testing.T) {
	for _, r := range rings(5) {
		for i, name := range r.Names {
			f, h := "x*y*z*u*v; "+name+"^2", constant(rat(1, 1))
			for _, k := range allBut(5, i) {
				h = times(h, power(k, 1))
			}
			expectContraction(t, r, f, allBut(5, i), name)
			expectHalf(t, r, half{f, allBut(5, i), printed(r, h.terms(r)), name, 1})
		}
	}
}
