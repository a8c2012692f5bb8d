package basis_test

import (
	"testing"

	"primrose/api"
	"primrose/basis"
)

// expectFuel holds Reduced with each amount of fuel up to what it needs, and some
// more, against what it answers with all of it. It returns the number of steps.
func expectFuel(t *testing.T, r api.Ring, f [][]api.Term) int {
	t.Helper()
	all := expectReckoned(t, r, f, api.MaxFuel)
	if all.e != api.OK {
		t.Fatalf("P1: %s in %v: %d", printedList(r, f), r, all.e)
	}
	steps := api.MaxFuel - all.left
	for fuel := range steps {
		expectReduced(t, r, f, fuel, answer{e: api.ErrFuel})
	}
	for _, more := range []int{0, 1, 2, 1000, api.MaxFuel - steps - 1, api.MaxFuel - steps} {
		expectReduced(t, r, f, steps+more, answer{g: all.g, left: more})
	}
	return steps
}

// The last step that there is no fuel for is that of a pair, one within its
// division, or one of the divisions at the end.
func TestP1Fuel(t *testing.T) {
	r := lex(2)
	for _, x := range []struct {
		f     string
		steps int
	}{
		{"x", 0},
		// A pair.
		{"x; x", 1},
		{"x; y", 1},
		{"x^2 - 3; x*y", 3},
		// The division of a pair, and pairs behind it.
		{"x^2 - y; x*y; y^2; x - 1", 18},
		{"x - y^2; y^2 - 2; x", 7},
		// The divisions at the end.
		{"x - y; y - 1", 2},
		{"x + y^7; y - 1", 8},
	} {
		if steps := expectFuel(t, r, parsedList(t, r, x.f)); steps != x.steps {
			t.Errorf("P1: %s takes %d steps, not %d", x.f, steps, x.steps)
		}
	}
}

func TestP1FuelOfSamples(t *testing.T) {
	s, samples := noise(9), 0
	for _, r := range allRings() {
		for k := range 12 {
			f := s.samples(2+k%3, len(r.Names), 3, 3, 3)
			if reduced(r, f, 80).e == api.OK {
				expectFuel(t, r, s.anyForms(r, f))
				samples++
			}
		}
	}
	if samples < 250 {
		t.Errorf("only %d samples", samples)
	}
}

// Exactly MaxFuel steps, and one more: one of the pair, the others of the last
// divisions.
func TestP1AllFuel(t *testing.T) {
	r := lex(3)
	by := parsed(t, r, "z - 1")
	for _, x := range []struct {
		last int
		want api.Errno
	}{{limit - 1, api.OK}, {limit, api.ErrFuel}} {
		t.Run("", func(t *testing.T) {
			t.Parallel()
			p, want := power(0, 1), power(0, 1)
			for k := range api.MaxFuel / limit {
				n := limit
				if k == 0 {
					n = x.last
				}
				p.add(key{0, k, n}, rat(1, 1))
				want.add(key{0, k}, rat(1, 1))
			}
			g, left, e := basis.Reduced(r, [][]api.Term{p.terms(r), by}, api.MaxFuel)
			switch {
			case e != x.want || left != 0:
				t.Errorf("P1: all fuel: %d, %d, not %d", left, e, x.want)
			case e == api.OK && !areForms(r, g, []sum{sumOf(by), want}), e != api.OK && g != nil:
				t.Errorf("P1: all fuel: %s", printedList(r, g))
			}
		})
	}
}
