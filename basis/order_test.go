package basis_test

import (
	"strings"
	"testing"

	"primrose/api"
)

// ring is a ring with these letters as names.
func ring(names string, order int) api.Ring {
	return api.Ring{Names: strings.Split(names, ""), Order: order}
}

// The pair with the least Lcm is next, in the order of the ring, also among those of
// new elements.
func TestP1LeastLcm(t *testing.T) {
	// Each of these takes more steps by the order of the indices alone, and also by
	// the greatest Lcm. For the first one: (1, 2) makes y^2, whose pairs (1, 3) and
	// (0, 3) leave nothing; so do (0, 1) and (0, 2), the latter after a step; and
	// the leading monomials of (2, 3) have no variable in common.
	expectIdeals(t, lex(3), []ideal{
		{"3*x^2*y^2*z; y*z^2; 2*x^2*z^2 + 2*y", "y*z^2; y^2; x^2*z^2 + y", 7},
		{"2*x^2 + y^2*z; x^2*y^2; 2*x^2*y^2*z", "y^4*z; x^2 + 1/2*y^2*z", 7},
	})
	// The same polynomials with other leading monomials, and so other Lcms.
	for _, x := range []struct {
		order, first int
		g            string
	}{
		{api.Lex, 0, "y^5 - y; x - y^2"},
		{api.Grlex, 0, "y^2 - x; x^2*y - y; x^3 - x"},
		{api.Grevlex, 0, "y^2 - x; x^2*y - y; x^3 - x"},
		{api.Block, 1, "y^5 - y; x - y^2"},
	} {
		r := api.Ring{Names: letters(2), Order: x.order, First: x.first}
		f := parsedList(t, r, "x^2*y - y; y^2 - x")
		a := expectReckoned(t, r, f, 100)
		if a.e != api.OK || !areForms(r, parsedList(t, r, x.g), a.g) {
			t.Errorf("P1: in %v: %s, %d, %d steps", r, printedList(r, termsOf(r, a.g)), a.e, 100-a.left)
		}
	}
}

// Of several pairs with the least Lcm the one with the least k is next: here
// t*y*z*x is that of (1, 2), of (0, 3), which is too great, and of (1, 3) and
// (2, 3). Those of (0, 2) and (0, 1) are less.
func TestP1LeastK(t *testing.T) {
	r := ring("tyzx", api.Lex)
	f := parsedList(t, r, "t*x; t*y*x; t*z*x; t*y*z + x^65536")
	for fuel, want := range []api.Errno{api.ErrFuel, api.ErrFuel, api.ErrFuel, api.ErrFuel, api.ErrLong, api.ErrLong} {
		expectReduced(t, r, f, fuel, answer{e: want})
		expectReckoned(t, r, f, fuel)
	}
	// With the greatest k first this one takes more steps.
	for _, r := range rings(3)[:4] {
		expectIdeals(t, r, []ideal{{"x^2*y^2*z + 1; 2*x^2*y^2*z; -x^2*y^2*z - x*y^2*z^2", "1", 9}})
	}
}

// Of several pairs with the least Lcm and the least k the one with the least i is
// next: here x^2*y is that of (0, 2) and of (1, 2), which is too great. Before them
// come (0, 1) and a pair of the new element z - y^65536.
func TestP1LeastI(t *testing.T) {
	r := ring("xzy", api.Lex)
	f := parsedList(t, r, "x^2 + z; x^2 + y^65536; x*y")
	for fuel, want := range []api.Errno{api.ErrFuel, api.ErrFuel, api.ErrFuel, api.ErrFuel, api.ErrLong, api.ErrLong} {
		expectReduced(t, r, f, fuel, answer{e: want})
		expectReckoned(t, r, f, fuel)
	}
}

// Many pairs have the same Lcm. Which one is next shows in which error comes first:
// exponents near the limit make some of them too great.
func TestP1EqualLcms(t *testing.T) {
	s, long := noise(8), 0
	leads := []key{{1, 1}, {1, 0, 1}, {0, 1, 1}, {1, 1, 1}, {2}, {1}}
	for _, names := range []string{"xyz", "xzy", "yxz"} {
		for k := range 150 {
			r := ring(names, api.Lex)
			var f []sum
			for range 3 + k%3 {
				p := sum{}
				p.add(leads[s.below(len(leads))], rat(1, 1))
				for range s.below(3) {
					var tail key
					tail[s.below(3)] = []int{1, limit - 1, limit}[s.below(3)]
					p.add(tail, rat(int64(1+s.below(3)), 1))
				}
				f = append(f, p)
			}
			for fuel := range 12 {
				if a := expectReckoned(t, r, termsOf(r, f), fuel); a.e == api.ErrLong {
					long++
				}
			}
		}
	}
	if long < 500 {
		t.Errorf("only %d are too great", long)
	}
}

// Of very many elements only the pairs that there is fuel for are looked at.
func TestP1ManyElements(t *testing.T) {
	r := lex(2)
	var f [][]api.Term
	for k := range 20000 {
		f = append(f, plus(power(0, 1), times(power(1, 1), constant(rat(int64(k/2), 1)))).terms(r))
	}
	// Of (0, 1) nothing remains, of (0, 2) y.
	expectReduced(t, r, f, 2, answer{e: api.ErrFuel})
	expectReduced(t, r, f, 5000, answer{e: api.ErrFuel})
	expectIs(t, r, f, 1, answer{e: api.ErrFuel})
	expectIs(t, r, f, 100, answer{left: 98})
}

// For a pair whose leading monomials have no variable in common nothing is done
// beyond the step, though its S-polynomial would need steps, or be too great.
func TestP1NothingInCommon(t *testing.T) {
	for _, r := range rings(2) {
		expectIdeals(t, r, []ideal{
			{"x + 1; y + 1", "y + 1; x + 1", 1},
			{"x^2 - x - 1; y^2 - y - 1", "y^2 - y - 1; x^2 - x - 1", 1},
			{"x^65536 + x; y^65536 + y", "y^65536 + y; x^65536 + x", 1},
		})
	}
	for _, r := range rings(6) {
		f := parsedList(t, r, "w^65536 + w; v^3 - v; u^2 - 1; z - 5; y^65536 - 3; x^2 - 2*x")
		expectReduced(t, r, f, 15, reduced(r, sumsOf(f), 15))
		expectReduced(t, r, f, 14, answer{e: api.ErrFuel})
	}
	expectIdeals(t, lex(3), []ideal{{"x*y + z^9; z^3 - 1", "z^3 - 1; x*y + 1", 4}})
}

// An element is removed if another leading monomial divides its own; of those with
// the same one the first one stays.
func TestP1Removed(t *testing.T) {
	expectIdeals(t, lex(2), []ideal{
		// y^2 - y is found; it and both elements have nothing in common. Of the
		// first element y^2 becomes y, which is a step; the second one would need
		// none.
		{"x + y^2; x + y", "y^2 - y; x + y", 4},
		{"x + y; x + y^2", "y^2 - y; x + y", 3},
		// The same one twice.
		{"x + y; x + y", "x + y", 1},
		// A divisor behind it, and before it.
		{"x^2; x", "x", 1}, {"x; x^2", "x", 1}, {"x^2*y^2; x^2; y^2; x; y", "y; x", 10},
	})
	expectIdeals(t, lex(3), []ideal{{"2*x^2*y*z^2; -x^2*y*z^2 + 2*y^2*z^2", "y^2*z^2; x^2*y*z^2", 4}})
}

// At last elements are divided by the others in order, of which those before are
// divided already; what is divided is plain and monic, and the elements are sorted.
func TestP1LastDivisions(t *testing.T) {
	expectIdeals(t, lex(3), []ideal{
		// One pair each, and then steps of the divisions.
		{"z - 1; y - z; x - y", "z - 1; y - 1; x - 1", 5},
		// The first one is divided by y - z and then z - 1: by y - 1 it would be a
		// step less.
		{"x - y; y - z; z - 1", "z - 1; y - 1; x - 1", 6},
		{"y - z; x - y; z - 1", "z - 1; y - 1; x - 1", 5},
		{"x + y^2 + z^2; y - 3; z - 1/2", "z - 1/2; y - 3; x + 37/4", 7},
		{"z - 1/2; x + y^2 + z^2; y - 3", "z - 1/2; y - 3; x + 37/4", 7},
	})
	expectIdeals(t, lex(3), []ideal{{"-x*z + 2*y^2*z^2; 2*x^2*y^2 - x*y*z; -y^2*z", "y^2*z; x*z; x^2*y^2", 12}})
	expectIdeals(t, ring("xyz", api.Grevlex), []ideal{
		{"x*y^2 + x^2; y*z; 2*y^2*z^2; 2*x^2 + 2*y*z", "y*z; x^2; x*y^2", 16},
		{"2*x*y^2 - x*y*z; 2*x^2*z^2 + 2*x*y^2; 2*x*y*z^2 + x*y*z; y*z", "y*z; x*y^2; x^2*z^2", 24},
	})
}
