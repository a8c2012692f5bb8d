package basis_test

import (
	"slices"
	"testing"

	"primrose/api"
	"primrose/fraction"
)

// expectLong expects that Reduced is too great at the step after so many, and Is at
// another one.
func expectLong(t *testing.T, r api.Ring, f [][]api.Term, steps, stepsOfIs int) {
	t.Helper()
	for fuel := range max(steps, stepsOfIs) + 3 {
		want := answer{e: api.ErrFuel}
		if fuel > steps {
			want.e = api.ErrLong
		}
		expectReduced(t, r, f, fuel, want)
		expectReckoned(t, r, f, fuel)
		want.e = api.ErrFuel
		if fuel > stepsOfIs {
			want.e = api.ErrLong
		}
		expectIs(t, r, f, fuel, want)
		expectIsReckoned(t, r, f, fuel)
	}
	expectError(t, r, f, api.MaxFuel, api.ErrLong)
}

// The S-polynomial of a pair, or its division, may be too great. Without fuel for
// the step it is not looked at.
func TestLimit(t *testing.T) {
	r := lex(2)
	for _, x := range []struct {
		f                string
		steps, stepsOfIs int
	}{
		// The S-polynomial: of the first pair, and of later ones.
		{"x^2 + y^40000; x*y^40000 + 1", 0, 0},
		{"x*y^40000 + 1; x^2 + y^40000", 0, 0},
		{"x^2 + y^65536; x*y + 1", 0, 0},
		{"y^2; y^2; x^2 + y^65536; x*y^2", 5, 1},
		{"y^3; y^2; x*y^3; x^2 + y^65536", 5, 3},
	} {
		expectLong(t, r, parsedList(t, r, x.f), x.steps, x.stepsOfIs)
	}
	r = lex(3)
	for _, x := range []struct {
		f                string
		steps, stepsOfIs int
	}{
		// The division of y*z^30000 - 1, which is a step itself.
		{"x^2 + y*z^30000; x^2 + 1; y - z^40000", 1, 1},
		// And of y^2*z^30000 - 1, whose first step is none that is too great.
		{"x^2 + y^2*z^20000; x^2 + 1; y - z^30000", 2, 2},
	} {
		expectLong(t, r, parsedList(t, r, x.f), x.steps, x.stepsOfIs)
	}
}

// The divisions at the end may be too great too.
func TestP1LimitAtTheEnd(t *testing.T) {
	r := lex(3)
	for _, x := range []struct {
		f     string
		steps int
	}{
		{"x + y*z^30000; y - z^40000", 1},
		{"y - z^40000; x + y*z^30000", 1},
		{"x + y^2*z^20000; y - z^30000", 2},
		{"x + y*z^40000; y - z^40000", 1},
		{"x + y*z^65536; y - z", 1},
	} {
		f := parsedList(t, r, x.f)
		for fuel := range x.steps + 3 {
			want := answer{e: api.ErrFuel}
			if fuel > x.steps {
				want.e = api.ErrLong
			}
			expectReduced(t, r, f, fuel, want)
			expectReckoned(t, r, f, fuel)
		}
		expectReduced(t, r, f, api.MaxFuel, answer{e: api.ErrLong})
	}
	// At the limit, but not beyond it.
	expectIdeals(t, r, []ideal{
		{"x + y*z^30000; y - z^35536", "y - z^35536; x + z^65536", 2},
		{"x + y*z^65535; y - z", "y - z; x + z^65536", 2},
		{"x + y*z^65536; y - 2", "y - 2; x + 2*z^65536", 2},
	})
}

// Exponents may be at the limit.
func TestAtTheLimit(t *testing.T) {
	for _, r := range rings(2) {
		for _, text := range []string{
			"x^65536; y^65536", "x^65536*y^65536 - 1; x^65536*y^65536", "x^65536*y - x; x^2",
			"x^65536*y^65536; x^65536*y; x*y^65536", "x^3*y^65534 - 1; x^2*y^3 - y",
		} {
			f := parsedList(t, r, text)
			for fuel := range 12 {
				expectReckoned(t, r, f, fuel)
				expectIsReckoned(t, r, f, fuel)
			}
		}
	}
}

// Only the terms of plain elements count.
func TestLimitOfPlainElements(t *testing.T) {
	one, minusOne := fraction.Of(1), fraction.Of(-1)
	r := lex(2)
	far := []int{0, limit}
	x, xy := api.Term{C: one, E: []int{2, 0}}, []api.Term{{C: one, E: []int{1, 1}}}
	for _, f := range [][]api.Term{
		{x, {C: fraction.Of(0), E: far}},
		{x, {C: api.Rat{Num: one.Num}, E: far}},
		{x, {C: one, E: far}, {C: minusOne, E: far}},
		{{C: one, E: far}, x, {C: minusOne, E: far}},
	} {
		expectReduced(t, r, [][]api.Term{f, xy}, 1, answer{g: []sum{sumOf(xy), sumOf(f)}})
		expectIs(t, r, [][]api.Term{f, xy}, 1, answer{is: true})
		expectError(t, r, [][]api.Term{append(slices.Clone(f), api.Term{C: one, E: far}), xy}, 1, api.ErrLong)
	}
}
