package poly_test

import (
	"math/big"
	"slices"
	"testing"

	"primrose/api"
	"primrose/fraction"
	"primrose/poly"
)

func bigPower(x *big.Rat, n int) *big.Rat {
	e := big.NewInt(int64(n))
	return new(big.Rat).SetFrac(new(big.Int).Exp(x.Num(), e, nil), new(big.Int).Exp(x.Denom(), e, nil))
}

// eval is the value of s.
func (s sum) eval(at []api.Rat) *big.Rat {
	total := new(big.Rat)
	for k, c := range s {
		product := new(big.Rat).Set(c)
		for i, x := range at {
			product.Mul(product, bigPower(toBig(x), k[i]))
		}
		total.Add(total, product)
	}
	return total
}

func (s sum) deriv(i int) sum {
	all := sum{}
	for k, c := range s {
		if n := k[i]; n > 0 {
			k[i]--
			all.add(k, new(big.Rat).Mul(c, big.NewRat(int64(n), 1)))
		}
	}
	return all
}

func expectValue(t *testing.T, r api.Ring, p []api.Term, at []api.Rat, want *big.Rat) {
	t.Helper()
	got, e := poly.Eval(r, p, at)
	if e != api.OK || !isPlainRat(got) || toBig(got).Cmp(want) != 0 {
		t.Errorf("Eval of %v in %v at %v: %v, error %d", p, r, at, got, e)
	}
}

// points are so many values, of all shapes.
func points(n int) [][]api.Rat {
	s, all := noise(n+20), coefficients()
	points := [][]api.Rat{make([]api.Rat, n), slices.Repeat([]api.Rat{rat(1, 1)}, n)}
	for range 8 {
		var at []api.Rat
		for range n {
			at = append(at, all[s.below(len(all))])
		}
		points = append(points, at)
	}
	return points
}

func TestG6Eval(t *testing.T) {
	for _, r := range allRings() {
		for _, p := range samples(len(r.Names)) {
			for _, at := range points(len(r.Names)) {
				expectValue(t, r, p, at, sumOf(p).eval(at))
			}
		}
	}
}

func TestG6Examples(t *testing.T) {
	for _, r := range rings(2) {
		expectValue(t, r, []api.Term{of(1, 2, 0), of(-1, 0, 2)}, []api.Rat{rat(5, 1), rat(3, 1)}, big.NewRat(16, 1))
		expectValue(t, r, []api.Term{of(1, 2, 1), of(1, 0, 0)}, []api.Rat{rat(-1, 2), rat(3, 9)}, big.NewRat(13, 12))
		expectValue(t, r, nil, []api.Rat{rat(5, 1), rat(3, 1)}, new(big.Rat))
		// A variable to the power of 0 is 1, also at 0.
		expectValue(t, r, []api.Term{of(4, 0, 0), of(1, 1, 0), of(1, 0, 1)}, []api.Rat{rat(0, 1), rat(3, 0)}, big.NewRat(4, 1))
		expectValue(t, r, []api.Term{of(4, 0, 2)}, []api.Rat{rat(0, 1), rat(3, 1)}, big.NewRat(36, 1))
		expectValue(t, r, []api.Term{of(4, 3, 0)}, []api.Rat{rat(2, 1), {}}, big.NewRat(32, 1))
	}
}

// Each variable has the value at its own place.
func TestG6EachVariable(t *testing.T) {
	for _, r := range allRings() {
		n := len(r.Names)
		var at []api.Rat
		for i := range n {
			at = append(at, rat(i+2, 3))
		}
		for i := range n {
			expectValue(t, r, []api.Term{term(n, i, 2)}, at, big.NewRat(int64((i+2)*(i+2)), 9))
		}
	}
}

func TestG6GreatPowers(t *testing.T) {
	r := rings(2)[0]
	for _, c := range []api.Rat{rat(1, 1), rat(-1, 1), rat(2, 1), rat(1, 2), rat(-4, 6), rat(0, 1), rat(7, 0)} {
		for _, n := range []int{limit, limit - 1} {
			p := []api.Term{of(3, n, 0), of(1, 1, 1), of(1, 0, n)}
			at := []api.Rat{c, rat(-1, 1)}
			expectValue(t, r, p, at, sumOf(p).eval(at))
		}
	}
}

// Long polynomials end soon.
func TestG6LongLists(t *testing.T) {
	var p []api.Term
	for n := range limit {
		p = append(p, of(1, n))
	}
	want := new(big.Int).Lsh(big.NewInt(1), limit)
	want.Sub(want, big.NewInt(1))
	expectValue(t, rings(1)[0], p, []api.Rat{rat(2, 1)}, new(big.Rat).SetInt(want))
}

func TestG7Deriv(t *testing.T) {
	for _, r := range allRings() {
		for _, p := range samples(len(r.Names)) {
			for i := range r.Names {
				got, e := poly.Deriv(r, p, i)
				expect(t, r, got, e, sumOf(p).deriv(i), "Deriv", p, i)
			}
		}
	}
}

func TestG7Examples(t *testing.T) {
	for _, r := range rings(2)[:3] {
		got, e := poly.Deriv(r, []api.Term{of(1, 2, 1)}, 0)
		expectTerms(t, got, e, []api.Term{of(2, 1, 1)}, "x^2*y")
		got, e = poly.Deriv(r, []api.Term{of(1, 2, 1)}, 1)
		expectTerms(t, got, e, []api.Term{of(1, 2, 0)}, "x^2*y")
		p := []api.Term{of(1, limit, limit), {C: rat(-1, limit), E: []int{limit, 0}}, of(9, 0, 5), of(7, 0, 0), of(1, 3, 0), of(-1, 3, 0)}
		got, e = poly.Deriv(r, p, 0)
		expectTerms(t, got, e, []api.Term{of(limit, limit-1, limit), of(-1, limit-1, 0)}, "great exponents")
		for i := range 2 {
			for _, constant := range [][]api.Term{nil, {of(5, 0, 0)}, {of(0, 3, 3)}, {of(2, 3, 3), of(-2, 3, 3)}} {
				got, e = poly.Deriv(r, constant, i)
				expectTerms(t, got, e, nil, "constants")
			}
		}
	}
}

// laws are what holds for polynomials p, q and s in a ring.
type laws struct {
	t *testing.T
	r api.Ring
}

// same holds two answers against each other.
func (l laws) same(p, q []api.Term, what string) {
	l.t.Helper()
	if !isSame(p, q) || !poly.Right(l.r, p) {
		l.t.Errorf("%s in %v: %v and %v", what, l.r, p, q)
	}
}

func (l laws) plus(p, q []api.Term) []api.Term {
	sum, _ := poly.Add(l.r, p, q)
	return sum
}

func (l laws) times(p, q []api.Term) []api.Term {
	product, _ := poly.Mul(l.r, p, q)
	return product
}

func (l laws) deriv(p []api.Term, i int) []api.Term {
	derivative, _ := poly.Deriv(l.r, p, i)
	return derivative
}

func (l laws) value(p []api.Term, at []api.Rat) api.Rat {
	x, _ := poly.Eval(l.r, p, at)
	return x
}

func TestG9Ring(t *testing.T) {
	for _, r := range allRings() {
		l, all := laws{t, r}, few(len(r.Names))
		one := all[1]
		for _, p := range all {
			norm, _ := poly.Norm(r, p)
			negative, _ := poly.Sub(r, nil, p)
			scaled, _ := poly.Scale(r, p, rat(-1, 1))
			l.same(l.plus(p, nil), norm, "p + 0")
			l.same(l.times(one, p), norm, "1 * p")
			l.same(l.plus(p, negative), nil, "p - p")
			l.same(scaled, negative, "-p")
			for _, q := range all {
				l.same(l.plus(p, q), l.plus(q, p), "p + q")
				l.same(l.times(p, q), l.times(q, p), "p * q")
				for _, s := range all {
					l.same(l.plus(l.plus(p, q), s), l.plus(p, l.plus(q, s)), "p + q + s")
					l.same(l.times(l.times(p, q), s), l.times(p, l.times(q, s)), "p * q * s")
					l.same(l.times(p, l.plus(q, s)), l.plus(l.times(p, q), l.times(p, s)), "p * (q + s)")
				}
			}
		}
	}
}

func TestG9Eval(t *testing.T) {
	for _, r := range allRings() {
		l, n := laws{t, r}, len(r.Names)
		for _, p := range few(n) {
			for _, q := range few(n) {
				for k, at := range points(n) {
					x, y := l.value(p, at), l.value(q, at)
					if !isSameRat(l.value(l.plus(p, q), at), fraction.Add(x, y)) || !isSameRat(l.value(l.times(p, q), at), fraction.Mul(x, y)) {
						t.Errorf("values of %v and %v at %v in %v", p, q, at, r)
					}
					i := k % n
					replaced, _ := poly.Subst(r, p, i, q)
					there := slices.Clone(at)
					there[i] = y
					if !isSameRat(l.value(replaced, at), l.value(p, there)) {
						t.Errorf("the value of %v with %v for variable %d at %v in %v", p, q, i, at, r)
					}
				}
			}
		}
	}
}

func TestG9Deriv(t *testing.T) {
	for _, r := range allRings() {
		l, n := laws{t, r}, len(r.Names)
		for _, p := range few(n) {
			for _, q := range few(n) {
				for i := range n {
					l.same(l.deriv(l.plus(p, q), i), l.plus(l.deriv(p, i), l.deriv(q, i)), "the sum rule")
					product := l.plus(l.times(l.deriv(p, i), q), l.times(p, l.deriv(q, i)))
					l.same(l.deriv(l.times(p, q), i), product, "the product rule")
				}
				replaced, _ := poly.Subst(r, p, 0, q)
				inner, _ := poly.Subst(r, l.deriv(p, 0), 0, q)
				for i := 1; i < n; i++ {
					outer, _ := poly.Subst(r, l.deriv(p, i), 0, q)
					l.same(l.deriv(replaced, i), l.plus(l.times(inner, l.deriv(q, i)), outer), "the chain rule")
				}
			}
		}
	}
}

// Lists of one polynomial have the same plain list, whatever they look like.
func TestG9OnePlainList(t *testing.T) {
	for _, r := range allRings() {
		all := samples(len(r.Names))
		for _, p := range all {
			want, _ := poly.Norm(r, p)
			back := slices.Clone(p)
			slices.Reverse(back)
			var halves []api.Term
			for _, term := range p {
				half := api.Term{C: fraction.Mul(term.C, rat(3, 6)), E: term.E}
				halves = slices.Insert(append(halves, half), len(halves)/2, half)
			}
			for _, q := range append(all, back, halves) {
				got, e := poly.Norm(r, q)
				difference := sumOf(p).plus(sumOf(q), big.NewRat(-1, 1))
				if e != api.OK || isSame(got, want) != (len(difference) == 0) {
					t.Errorf("%v and %v in %v", p, q, r)
				}
			}
		}
	}
}
