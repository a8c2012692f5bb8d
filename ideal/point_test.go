package ideal_test

import (
	"math/big"
	"slices"
	"testing"

	"primrose/api"
)

// point has a coordinate from -2 to 2 for each variable, and 0 beyond these.
type point [6]int

// allPoints are the points in n variables.
func allPoints(n int) []point {
	all := []point{{}}
	for i := range n {
		var more []point
		for _, at := range all {
			for x := -2; x <= 2; x++ {
				at[i] = x
				more = append(more, at)
			}
		}
		all = more
	}
	return all
}

// points makes different points.
func (s *noise) points(n, count int) []point {
	var l []point
	for len(l) < count {
		if at := allPoints(n)[s.below(len(allPoints(n)))]; !slices.Contains(l, at) {
			l = append(l, at)
		}
	}
	return l
}

// value is what a polynomial is at a point.
func value(p sum, at point) *big.Rat {
	total := new(big.Rat)
	for k, c := range p {
		product := new(big.Rat).Set(c)
		for i, x := range at {
			for range k[i] {
				product.Mul(product, rat(int64(x), 1))
			}
		}
		total.Add(total, product)
	}
	return total
}

// ofPoints is the ideal of the polynomials that vanish at points: the product of
// those of each one.
func ofPoints(r api.Ring, points []point) []sum {
	f := []sum{constant(rat(1, 1))}
	for _, at := range points {
		var h []sum
		for i := range r.Names {
			h = append(h, minus(power(i, 1), constant(rat(int64(at[i]), 1))))
		}
		f = (&words{left: 1 << 30}).product(r, f, h)
	}
	return f
}

// expectVariety expects that all polynomials vanish at those points that isIn tells,
// and only there.
func expectVariety(t *testing.T, q question, g [][]api.Term, isIn func(at point) bool) {
	t.Helper()
	l := sumsOf(g)
	for _, at := range allPoints(len(q.r.Names)) {
		vanish := !slices.ContainsFunc(l, func(p sum) bool { return value(p, at).Sign() != 0 })
		if vanish != isIn(at) {
			t.Fatalf("%s of %s and %s, %d in %v: %s at %v", q.call, printedList(q.r, q.f), printedList(q.r, q.h), q.k, q.r, printedList(q.r, g), at)
		}
	}
}

// Ideals of points: each call answers the ideal of the points that it should, which
// has no other polynomials.
func TestPoints(t *testing.T) {
	t.Parallel()
	s := noise(34)
	for _, r := range append(append(rings(1), rings(2)...), rings(3)...) {
		n := len(r.Names)
		for k := range 4 {
			first, second := s.points(n, 1+k%3), s.points(n, 1+k%2)
			f, h := s.anyForms(r, ofPoints(r, first)), s.anyForms(r, ofPoints(r, second))
			isFirst := func(at point) bool { return slices.Contains(first, at) }
			isSecond := func(at point) bool { return slices.Contains(second, at) }
			for call, isIn := range map[string]func(at point) bool{
				"Sum":      func(at point) bool { return isFirst(at) && isSecond(at) },
				"Meet":     func(at point) bool { return isFirst(at) || isSecond(at) },
				"Product":  func(at point) bool { return isFirst(at) || isSecond(at) },
				"Quotient": func(at point) bool { return isFirst(at) && !isSecond(at) },
			} {
				q := question{call, r, f, h, 0}
				a := q.ask(api.MaxFuel)
				if a.e != api.OK {
					t.Fatalf("%s of %v and %v: %d", call, first, second, a.e)
				}
				expectVariety(t, q, a.g, isIn)
				left := slices.DeleteFunc(allPoints(n), func(at point) bool { return !isIn(at) })
				if call != "Product" && !areForms(r, a.g, ofPoints(r, left)) {
					t.Fatalf("%s of %v and %v: %s", call, first, second, printedList(r, a.g))
				}
			}
		}
	}
}

// What remains of points are the points without their first coordinates.
func TestQ3Points(t *testing.T) {
	s := noise(35)
	for _, r := range append(rings(2), rings(3)...) {
		for range 4 {
			points := s.points(len(r.Names), 3)
			f := s.anyForms(r, ofPoints(r, points))
			for k := range len(r.Names) + 1 {
				q := question{"Eliminate", r, f, nil, k}
				a := q.ask(api.MaxFuel)
				if a.e != api.OK {
					t.Fatalf("Q3: %d of %v: %d", k, points, a.e)
				}
				expectVariety(t, q, a.g, func(at point) bool {
					return slices.ContainsFunc(points, func(x point) bool { return slices.Equal(x[k:], at[k:]) })
				})
			}
		}
	}
}

// What a polynomial leaves of points are those at which it does not vanish. One
// division is enough.
func TestQ6Points(t *testing.T) {
	s := noise(36)
	for _, r := range append(append(rings(1), rings(2)...), rings(3)...) {
		n := len(r.Names)
		for k := range 5 {
			points := s.points(n, 1+k%4)
			p := s.sample(n, 3, 2, 2)
			p = minus(p, constant(value(p, points[0])))
			if k == 3 {
				p = plus(p, constant(rat(1, 7)))
			}
			q := question{"Saturate", r, s.anyForms(r, ofPoints(r, points)), [][]api.Term{s.anyForm(r, p)}, 0}
			left := slices.DeleteFunc(slices.Clone(points), func(at point) bool { return value(p, at).Sign() == 0 })
			a := q.ask(api.MaxFuel)
			if a.e != api.OK || (a.s == 0) != (len(left) == len(points)) || a.s > 1 || !areForms(r, a.g, ofPoints(r, left)) {
				t.Fatalf("Q6: %v by %v: %s, %d, %d", points, p, printedList(r, a.g), a.s, a.e)
			}
		}
	}
}
