package stair_test

import (
	"slices"
	"testing"

	"primrose/api"
	"primrose/ideal"
)

// Ideals whose dimension is known, in each order. Those of dimension 0 have so many
// monomials below.
func TestKnownVarieties(t *testing.T) {
	t.Parallel()
	for _, x := range []struct {
		variables int
		f         string
		dim       int
		number    int
	}{
		// Curves, surfaces, and hypersurfaces.
		{3, "x^2 - y; x^3 - z", 1, 0},
		{4, "x*z - y^2; y*u - z^2; x*u - y*z", 2, 0},
		{2, "x^3 - y^2 - 1", 1, 0},
		{6, "x*y*z - u*v*w", 5, 0},
		{6, "x*v - y*u; x*w - z*u; y*w - z*v", 4, 0}, // matrices of rank 1
		{4, "x*u - y*z - 1", 3, 0},                   // matrices of determinant 1
		{4, "x^2 + y*z; x*y + y*u; x*z + z*u; y*z + u^2", 2, 0},
		// Lines and planes that meet.
		{3, "x*y; y*z; x*z", 1, 0}, {4, "x*z; x*u; y*z; y*u", 2, 0}, {3, "x*z; y*z", 2, 0}, {4, "x*u; y*u; z*u", 3, 0},
		{3, "x*y - x; x*z - x*y", 2, 0},
		// A line and a point, a point that lies on it, and points.
		{3, "x*z - z; y*z; x*y", 1, 0}, {2, "x^2; x*y", 1, 0}, {2, "x^2 - x; x*y; y^2 - y", 0, 3},
		// Cyclic roots, of which there are infinitely many for 4 variables.
		{2, "x + y; x*y - 1", 0, 2}, {3, "x + y + z; x*y + y*z + z*x; x*y*z - 1", 0, 6},
		{4, "x + y + z + u; x*y + y*z + z*u + u*x; x*y*z + y*z*u + z*u*x + u*x*y; x*y*z*u - 1", 1, 0},
		{3, "x + 2*y + 2*z - 1; x^2 + 2*y^2 + 2*z^2 - x; 2*x*y + 2*y*z - y", 0, 4},
		// As many as the product of the degrees, and fewer.
		{2, "x^2 + y^2 - 1; x*y - 3", 0, 4}, {3, "x^2 - y; y^2 - z; z^2 - x", 0, 8}, {2, "x^3 + y - 1; y^3 - x", 0, 9},
		{2, "x*y - 1; x^2 - y", 0, 3}, {3, "x^2 - 2; y^2 - 3; z - x - y", 0, 4}, {2, "x^2; x*y - y; y^3", 0, 2},
		{6, "x^2 - 1; y^2 - x; z - y; u^2; v - u; w^3 - w", 0, 24},
		// None.
		{2, "x^2 + 1; x^2 + 2", -1, 0}, {3, "x*y - 1; y*z - 1; x - 2*z", -1, 0}, {6, "x*w - 1; w", -1, 0},
	} {
		for _, r := range rings(x.variables) {
			f := parsedList(t, r, x.f)
			a := ask("Dim", r, f, api.MaxFuel)
			if a.e != api.OK || a.dim != x.dim {
				t.Errorf("R1: %s in %v: %v", x.f, r, a)
			}
			switch a = ask("Below", r, f, api.MaxFuel); {
			case x.dim > 0:
				expectNothing(t, "Below", r, f, api.MaxFuel, api.ErrPoint)
			case a.e != api.OK || len(a.below) != x.number:
				t.Errorf("R3: %d monomials below %s in %v, not %d", len(a.below), x.f, r, x.number)
			}
		}
	}
}

// plane makes linear polynomials in n variables, whose solutions have the dimension
// n - rank: each of the first ones is a sum of variables that begins with one of its
// own. Others are sums of these.
func (s *noise) plane(n, rank int) []sum {
	var f []sum
	places := s.places(n)
	for k := range rank {
		p := sum{}
		p.add(key{}, rat(int64(s.below(3)), 1))
		p = plus(p, power(places[k], 1))
		for _, i := range places[k+1:] {
			p = plus(p, times(power(i, 1), constant(rat(int64(s.below(5)-2), 1))))
		}
		f = append(f, p)
	}
	for k := range f {
		f = append(f, plus(f[k], times(f[s.below(rank)], constant(s.fraction(2)))))
	}
	return s.shuffled(f)
}

// places are the numbers below n in some order.
func (s *noise) places(n int) []int {
	l := make([]int, n)
	for k := range n {
		other := s.below(k + 1)
		l[k], l[other] = l[other], k
	}
	return l
}

// Planes of each dimension, and two of them together.
func TestPlanes(t *testing.T) {
	t.Parallel()
	s, tried := noise(40), 0
	for _, r := range allRings() {
		n := len(r.Names)
		for rank := range n + 1 {
			f := s.anyForms(r, s.plane(n, rank))
			if dim, ok := dimOf(t, r, f); !ok || dim != n-rank {
				t.Fatalf("R1: %s in %v has the dimension %d, not %d", printedList(r, f), r, dim, n-rank)
			}
			other := s.below(n + 1)
			h := s.anyForms(r, s.plane(n, other))
			var both [][]api.Term
			for _, p := range f {
				for _, q := range h {
					both = append(both, times(sumOf(p), sumOf(q)).terms(r))
				}
			}
			if dim, ok := dimOf(t, r, both); ok {
				tried++
				if dim != n-min(rank, other) {
					t.Fatalf("R4: %s and %s in %v have the dimension %d", printedList(r, f), printedList(r, h), r, dim)
				}
			}
		}
	}
	if tried < 40 {
		t.Errorf("only %d samples of two planes", tried)
	}
}

// pointsOf is a basis of the ideal of points: the intersection of those of each one.
func pointsOf(t *testing.T, r api.Ring, points [][]int) [][]api.Term {
	t.Helper()
	f := [][]api.Term{constant(rat(1, 1)).terms(r)}
	for _, at := range points {
		var h [][]api.Term
		for i, x := range at {
			h = append(h, minus(power(i, 1), constant(rat(int64(x), 1))).terms(r))
		}
		var e api.Errno
		if f, _, e = ideal.Meet(r, f, h, api.MaxFuel); e != api.OK {
			t.Fatalf("%v in %v: %d", points, r, e)
		}
	}
	return f
}

// There are as many monomials below as there are points.
func TestPoints(t *testing.T) {
	t.Parallel()
	s := noise(41)
	for n := 1; n <= 5; n++ {
		for want := range 8 {
			var points [][]int
			for len(points) < want {
				at := make([]int, n)
				for i := range at {
					at[i] = s.below(9 - n)
				}
				if !slices.ContainsFunc(points, func(x []int) bool { return slices.Equal(x, at) }) {
					points = append(points, at)
				}
			}
			f := pointsOf(t, api.Ring{Names: letters(n), Order: api.Grevlex}, points)
			for _, r := range rings(n) {
				if a := ask("Dim", r, f, api.MaxFuel); a.e != api.OK || a.dim != min(want, 1)-1 {
					t.Errorf("R1: %v in %v: %v", points, r, a)
				}
				if a := ask("Below", r, f, api.MaxFuel); a.e != api.OK || len(a.below) != want {
					t.Errorf("R3: %v in %v: %v", points, r, a)
				}
			}
		}
	}
}
