package primary_test

import (
	"fmt"
	"slices"
	"sort"
	"testing"

	"primrose/api"
	"primrose/primary"
)

// expectLong expects that a call is too great in one thing, behind so many parts, with as
// much fuel as it takes to get there; and ErrFuel with less.
func expectLong(t *testing.T, q question, fault string, parts int) {
	t.Helper()
	a, way := q.words(api.MaxFuel)
	if a.e != api.ErrLong || way.fault != fault || len(way.parts) != parts {
		t.Errorf("%v: error %d, %s %d", q, a.e, way.fault, len(way.parts))
		return
	}
	before := 0
	for _, p := range way.parts {
		before += p.steps
	}
	enough := before
	if a, _ := q.words(before); a.e != api.ErrLong { // the last part is a basis
		enough += sort.Search(api.MaxFuel-before, func(fuel int) bool {
			a, _ := q.words(before + fuel)
			return a.e == api.ErrLong
		})
	}
	for _, fuel := range []int{enough, enough + 1, api.MaxFuel} {
		expectNothing(t, q, fuel, api.ErrLong)
	}
	if enough > 0 {
		expectNothing(t, q, enough-1, api.ErrFuel)
		expectNothing(t, q, 0, api.ErrFuel)
	}
}

// What the layers below find too great is an error of each call, at whatever place: when
// an ideal is halved, the first one and later ones; in the basis for a minimal polynomial,
// when that is factored, when components and radicals are contracted, in a first half and
// in later ones, and for the degree of one.
func TestLimits(t *testing.T) {
	t.Parallel()
	for _, x := range []struct {
		names, order, first int
		f, fault            string
		parts               int
	}{
		{2, api.Lex, 0, "x + 2*y^40000; x^2", "halve", 0}, {2, api.Lex, 0, "x^40000*y + x", "halve", 0}, {3, api.Grlex, 0, "x^2 - x; x*y^60000*z^2 + z^2 + z", "halve", 0},
		{3, api.Lex, 0, "3*x^20000*y + 2*y*z^2; 2*x^10000*y*z^2", "halve", 9}, {3, api.Lex, 0, "x^3*z; x^2*z^2 - 3*x^2*z + x*y^20000*z^2 - 3*x*y^20000*z", "halve", 18},
		{3, api.Lex, 0, "x^2 + y^60000*z; z^2 - 1", "middle", 1}, {3, api.Lex, 0, "x^60000*y^2*z^2 + 2*x^60000*y^2; x^30000*y + z", "middle", 1},
		{3, api.Block, 2, "y^33000*z^2 + x^2 - x; z^3", "middle", 6}, {3, api.Block, 2, "x^2; x*y^33000 + z^3 - z", "middle", 10}, {3, api.Grevlex, 0, "x^2*y^60000*z^2 + x^2 - x; z^3", "middle", 13},
		{3, api.Block, 1, "3*x^33000*y*z - 2*y^2*z; 3*y*z^2 + 2*y*z", "middle", 19},
		{1, api.Lex, 0, "x^256 - 2", "factor", 2}, {1, api.Lex, 0, "x^13", "factor", 2}, {2, api.Lex, 0, "x^16 - y - 1", "factor", 2}, {2, api.Lex, 0, "x; y^13", "factor", 7}, {2, api.Lex, 0, "x*y^13", "factor", 2},
		{2, api.Lex, 0, "x^2 - 1; y*(x + 1); y^13", "factor", 14}, {2, api.Lex, 0, "x^2*y; x*y^13", "factor", 25}, {3, api.Lex, 0, "x^2*y; x*y^2*z; x*z^13", "factor", 16}, {2, api.Lex, 0, "x^40000*y", "factor", 11},
		{3, api.Block, 1, "x^2 + 2*y^40000*z; 2*z^2", "contract", 3}, {3, api.Lex, 0, "x^2; x*y^30000*z + z^2 - z", "contract", 12}, {3, api.Grevlex, 0, "x^2 - 2*x + 1; x^2*y^30000*z - x*y^30000*z + z^2 + z", "contract", 19},
		{3, api.Lex, 0, "x^2*y^30000*z^3 + x^2*y^30000*z^2 + x^2 - 1; z^3 + 2*z^2 + z", "contract", 33},
		{2, api.Lex, 0, "x^40 + x + 1; y^26 + y + 1", "degree", 9}, {2, api.Lex, 0, "x^7 - 2; y^143 - y - 1", "degree", 9},
	} {
		t.Run(x.fault, func(t *testing.T) {
			t.Parallel()
			r := api.Ring{Names: lex(x.names).Names, Order: x.order, First: x.first}
			for _, call := range calls() {
				expectLong(t, question{call, r, parsedList(t, r, x.f)}, x.fault, x.parts)
			}
		})
	}
}

// The powers of h may have an exponent of 65536: then the next half takes steps. A greater
// one is an error at once, in the third or the fourth product.
func TestLimitOfPowers(t *testing.T) {
	t.Parallel()
	r := lex(3)
	for _, x := range []struct {
		f     string
		power int // s
		parts int // to the product that is too great
	}{
		{"x^16384*z^2 + y; x^32768*y^2*z^2", 4, 0}, {"x^16385*z^2 + y; x^32770*y^2*z^2", 4, 13}, {"x^20000*z^2 + y; x^40000*y^2*z^2", 4, 13},
		{"x^15000*y^2 + z; x^6845*z^3", 3, 0}, {"x^15000*y^2 + z; x^6846*z^3", 3, 12}, {"x^19000*y^2 + z; x^8000*z^3", 3, 12},
	} {
		for _, call := range calls() {
			q := question{call, r, parsedList(t, r, x.f)}
			a, way := q.words(api.MaxFuel)
			if a.e != api.ErrLong || way.powers[0] != x.power || (way.fault == "power") != (x.parts > 0) {
				t.Errorf("U1: %v: error %d, %s, %v", q, a.e, way.fault, way.powers)
			}
			expectLong(t, q, way.fault, max(len(way.parts), x.parts))
			steps := 0
			for _, p := range way.parts {
				if p.name == "power" {
					break
				}
				steps += p.steps
			}
			expectWords(t, q, steps) // just enough for the powers
		}
	}
}

// lines are twelve lines through the origin of the plane, times the roots of -14: x is so
// many times -2*y. The form x + k*y makes two of them, or one line's two points, the same
// just if k is a sum of two of the numbers.
func lines(t *testing.T, r api.Ring, numbers []int) [][]api.Term {
	t.Helper()
	text := "1"
	for _, n := range numbers {
		text += fmt.Sprintf("*(x + %d*y)", 2*n)
	}
	return parsedList(t, r, "y^2 + 14; "+text)
}

// The sums are all integers from 0 to 49: so all attempts fail.
func TestLimitOfAttempts(t *testing.T) {
	t.Parallel()
	r := lex(2)
	q := question{"Decompose", r, lines(t, r, []int{0, 1, 3, 5, 7, 9, 11, 13, 15, 16, 32, 33})}
	expectLong(t, q, "attempts", 1396)
}

// What is too great for an intersection or a division is an error, too, behind the
// components that are found: when components are merged, when it is tested whether one is
// redundant, and in the hull.
func TestLimitsBehindComponents(t *testing.T) {
	t.Parallel()
	r := api.Ring{Names: lex(3).Names, Order: api.Block, First: 2}
	q := question{"Hull", r, parsedList(t, r, "y^2 + 2*y + 1; x*y + x + y + 1; x^2 + x + y*z^33000 + z^33000")}
	expectLong(t, q, "meet", 22)
	q.call = "Decompose"
	if a, _ := expectWords(t, q, api.MaxFuel); a.e != api.OK {
		t.Errorf("U1: %v: %s", q, q.told(a))
	}
	for _, x := range []struct{ found, fault string }{
		{"x^40000 - y | x / x^40000 + y | x", "meet"},
		{"y / x^40000 - y | x / x^40000 + y | x", "meet"},
		{"x^40000 - y | x / x^40000 + y | y / z", "meet"},
		{"z / x^40000 - y | x / x^40000 + y | y", "meet"},
		{"x^2 | y / x - y^40000 | x", "divide"},
		{"z | z / x - y^40000 | x / x^2 | y", "divide"},
	} {
		l := parsedComponents(t, lex(3), x.found)
		a, way := settled(lex(3), l, api.MaxFuel)
		if a.e != api.ErrLong || way.fault != x.fault {
			t.Errorf("U1: %s: error %d, %s", x.found, a.e, way.fault)
		}
		for fuel := range 100 {
			a, _ := settled(lex(3), slices.Clone(l), fuel)
			if _, _, e := primary.Settle(lex(3), l, fuel); e != a.e {
				t.Errorf("U1: %s with %d: error %d, not %d", x.found, fuel, e, a.e)
			}
		}
		if _, _, e := primary.Settle(lex(3), l, api.MaxFuel); e != api.ErrLong {
			t.Errorf("U1: %s: error %d", x.found, e)
		}
	}
}
