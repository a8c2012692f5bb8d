package stair_test

import (
	"testing"

	"primrose/api"
)

// expectFuel holds each call with each amount of fuel up to what it needs, and some
// more, against what it answers with all of it. It returns the number of steps.
func expectFuel(t *testing.T, r api.Ring, f [][]api.Term) int {
	t.Helper()
	all := expectWords(t, r, f, api.MaxFuel)
	if all.e != api.OK {
		t.Fatalf("%s in %v: %d", printedList(r, f), r, all.e)
	}
	steps := api.MaxFuel - all.left
	for fuel := range steps {
		expectError(t, r, f, fuel, api.ErrFuel)
	}
	enough := find(r, f, steps)
	if enough.left != 0 || enough.e != api.OK {
		t.Fatalf("%s in %v leaves %d: %d", printedList(r, f), r, enough.left, enough.e)
	}
	for _, call := range calls() {
		want := wordsOf(call, r, enough)
		for _, more := range []int{0, 1, 2, 1000, api.MaxFuel - steps - 1, api.MaxFuel - steps} {
			if want.e == api.OK {
				want.left = more
			}
			expect(t, call, r, f, steps+more, want)
		}
	}
	return steps
}

// Fuel that is just enough, and one step too few: the steps are those of the basis,
// and without one of them there is no other error.
func TestFuel(t *testing.T) {
	for _, x := range []struct {
		f     string
		steps int
	}{
		{"", 0}, {"0", 0}, {"1", 0}, {"x", 0}, {"x*y^2 - 7", 0},
		{"1; 1", 1}, {"x; 3", 1}, {"x; y", 1}, {"x^2; x*y; y^2", 3}, {"x; x; x", 3},
		{"x^1001; y^1001", 1}, {"x^65536; y^65536; x*y", 3},
		{"x*y - 1; y^2 - 1", 4}, {"x + 1; x - 1", 3}, {"x*y - 1; x; y", 7},
		{"x - y; y - 1", 2}, {"x + y^7; y - 1", 8}, {"x^2 - y; x*y; y^2; x - 1", 18},
	} {
		if steps := expectFuel(t, lex(2), parsedList(t, lex(2), x.f)); steps != x.steps {
			t.Errorf("%s takes %d steps, not %d", x.f, steps, x.steps)
		}
	}
}

func TestFuelOfSamples(t *testing.T) {
	t.Parallel()
	s, samples := noise(70), 0
	for _, r := range allRings() {
		for range 15 {
			f := s.sampleIdeal(len(r.Names), 3)
			if find(r, termsOf(r, f), 60).e == api.OK {
				expectFuel(t, r, s.anyForms(r, f))
				samples++
			}
		}
	}
	if samples < 250 {
		t.Errorf("only %d samples", samples)
	}
}

// Exactly MaxFuel steps, and one more: one of the pair, the others of the divisions
// of the basis by itself.
func TestAllFuel(t *testing.T) {
	r := lex(3)
	for _, x := range []struct {
		last int
		want api.Errno
	}{{limit - 1, api.OK}, {limit, api.ErrFuel}} {
		t.Run("", func(t *testing.T) {
			t.Parallel()
			p := power(0, 1)
			for k := range api.MaxFuel / limit {
				n := limit
				if k == 0 {
					n = x.last
				}
				p.add(key{0, k, n}, rat(1, 1))
			}
			f := [][]api.Term{p.terms(r), parsed(t, r, "z - 1")}
			if x.want != api.OK {
				expectError(t, r, f, api.MaxFuel, x.want)
				return
			}
			expect(t, "Dim", r, f, api.MaxFuel, reply{dim: 1})
			expect(t, "Independent", r, f, api.MaxFuel, reply{set: []int{1}})
			expectNothing(t, "Below", r, f, api.MaxFuel, api.ErrPoint)
		})
	}
}
