package stair_test

import (
	"testing"

	"primrose/api"
	"primrose/fraction"
)

// A basis may be too great: that comes before all that the calls themselves find,
// and fuel that ends before it comes first.
func TestLimitOfBasis(t *testing.T) {
	for _, x := range []struct {
		variables int
		f         string
		steps     int
	}{
		{2, "x^2 + y^40000; x*y^40000 + 1", 0},
		{2, "x^2 + y^65536; x*y + 1", 0},
		{3, "x^2 + y^40000; x*y^40000 + 1", 0},
		{3, "x^2 + y*z^30000; x^2 + 1; y - z^40000", 1},
		{3, "x + y*z^30000; y - z^40000", 1},
		{3, "x + y^2*z^20000; y - z^30000", 2},
		{3, "x + y*z^65536; y - z", 1},
	} {
		r := lex(x.variables)
		f := parsedList(t, r, x.f)
		for fuel := range x.steps + 3 {
			want := api.ErrFuel
			if fuel > x.steps {
				want = api.ErrLong
			}
			expectError(t, r, f, fuel, want)
			expectWords(t, r, f, fuel)
		}
		expectError(t, r, f, api.MaxFuel, api.ErrLong)
	}
}

// Exponents at the limit.
func TestAtTheLimit(t *testing.T) {
	for _, r := range rings(2) {
		expectKnown(t, r, []known{
			{f: "x^65536", dim: 1, set: []int{1}},
			{f: "x^65536*y^65536", dim: 1, set: []int{0}},
			{f: "x^65536*y^65536; y^65536", dim: 1, set: []int{0}},
			{f: "x^65536; y^65536", below: long},
			{f: "x^65536; y", below: long},
			{f: "x; y^65536", below: long},
			{f: "x^65536; y; x^65536*y^65536; x^3", below: "1 x x^2"},
		})
	}
}

// Only the terms of plain polynomials count.
func TestPlainPolynomials(t *testing.T) {
	r := lex(2)
	one, minusOne := fraction.Of(1), fraction.Of(-1)
	x2, x3, y2 := []int{2, 0}, []int{3, 0}, []int{0, 2}
	f := [][]api.Term{
		{{C: one, E: x3}, {C: one, E: x2}, {C: minusOne, E: x3}},
		{{C: fraction.Of(0), E: []int{limit, limit}}, {C: one, E: y2}, {C: api.Rat{Num: one.Num}, E: x3}},
	}
	expect(t, "Below", r, f, 1, reply{below: [][]int{{0, 0}, {0, 1}, {1, 0}, {1, 1}}})
	expect(t, "Dim", r, f, 1, reply{})
	expect(t, "Dim", r, f[:1], 0, reply{dim: 1})
	expect(t, "Independent", r, f[:1], 0, reply{set: []int{1}})
	expect(t, "Independent", r, f[1:], 0, reply{set: []int{0}})
}
