package dense_test

import (
	"slices"
	"testing"

	"primrose/api"
	"primrose/dense"
	"primrose/fraction"
)

// product returns c times the first factor, the second one to the power of 2, and
// so on.
func product(c api.Rat, factors ...[]api.Rat) []api.Rat {
	f := []api.Rat{c}
	for i, factor := range factors {
		for range i + 1 {
			f = dense.Mul(f, factor)
		}
	}
	return f
}

// expectSquares holds the square-free factorization and the radical against what
// defines them: there is only one such list.
func expectSquares(t *testing.T, f []api.Rat) {
	t.Helper()
	p := read(f)
	l := dense.Squares(f)
	all, once := polynomial{toBig(rat(1, 1))}, polynomial{toBig(rat(1, 1))}
	for i, factor := range l {
		q := read(factor)
		if !isPlain(factor) || !q.isSame(q.monic()) || len(q) == 0 || len(q.common(q.derivative())) != 1 || len(q.common(once)) != 1 {
			t.Fatalf("Squares of %v: %v", f, l)
		}
		once = once.times(q)
		for range i + 1 {
			all = all.times(q)
		}
	}
	if len(l) > 0 && len(l[len(l)-1]) == 1 {
		t.Fatalf("Squares of %v: the last one of %v is 1", f, l)
	}
	if len(p) <= 1 && len(l) != 0 || len(p) > 0 && !all.isSame(p.monic()) {
		t.Fatalf("Squares of %v: %v", f, l)
	}
	if len(p) == 0 {
		once = nil
	}
	expect(t, dense.Radical(f), once, "Radical", f)
}

// expectFactors holds the factorization against a known one.
func expectFactors(t *testing.T, f []api.Rat, want ...[]api.Rat) {
	t.Helper()
	l := dense.Squares(f)
	if !slices.EqualFunc(l, want, isSame) {
		t.Errorf("Squares of %v: %v, not %v", f, l, want)
	}
}

func TestI6Radical(t *testing.T) {
	for _, f := range nothings() {
		expectList(t, dense.Radical(f), nil, "Radical", f)
	}
	for _, f := range constants() {
		expectList(t, dense.Radical(f), of(1), "Radical", f)
	}
	for _, x := range []struct{ f, want []api.Rat }{
		{of(0, 0, 0, 1), of(0, 1)},
		{of(0, 1), of(0, 1)},
		{of(0, -5), of(0, 1)},
		{of(1, 2, 1), of(1, 1)},
		{of(-1, 0, 1), of(-1, 0, 1)},
		{of(4, -12, 9), []api.Rat{rat(-2, 3), rat(1, 1)}},
		{of(2, 0, 4, 0, 2), of(1, 0, 1)},
		{of(0, 0, 1, 2, 1), of(0, 1, 1)},
		{[]api.Rat{rat(1, 4), rat(1, 1), rat(2, 2), {}}, []api.Rat{rat(1, 2), rat(1, 1)}},
		{product(rat(3, 1), of(-1, 1), of(1), of(2, 1)), of(-2, 1, 1)},
	} {
		expectList(t, dense.Radical(x.f), x.want, "Radical", x.f)
	}
}

func TestI7Constants(t *testing.T) {
	for _, f := range append(nothings(), constants()...) {
		if l := dense.Squares(f); len(l) != 0 {
			t.Errorf("Squares of %v: %v", f, l)
		}
	}
}

func TestI7Examples(t *testing.T) {
	one := of(1)
	expectFactors(t, product(rat(3, 1), of(-1, 1), one, of(2, 1)), of(-1, 1), one, of(2, 1))
	expectFactors(t, of(0, 1), of(0, 1))
	expectFactors(t, of(0, 0, 0, 7), one, one, of(0, 1))
	expectFactors(t, of(-1, 0, 1), of(-1, 0, 1))
	expectFactors(t, of(2, 0, -4, 0, 2), one, of(-1, 0, 1))
	expectFactors(t, of(4, -12, 9, 0, 0), one, []api.Rat{rat(-2, 3), rat(1, 1)})
	expectFactors(t, product(rat(-2, 5), one, of(1, 0, 1), one, one, of(0, 1)), one, of(1, 0, 1), one, one, of(0, 1))
	expectFactors(t, product(rat(1, 6), of(1, 1), of(2, 1), of(3, 1), of(4, 1)), of(1, 1), of(2, 1), of(3, 1), of(4, 1))
	half := []api.Rat{rat(1, 2), rat(-2, 3), rat(1, 1)}
	expectFactors(t, product(rat(5, 1), of(7, 1), one, half), of(7, 1), one, half)
	// A factor may be made of several that occur equally often.
	expectFactors(t, product(rat(1, 1), of(0, -1, 0, 1), of(6, -5, 1)), of(0, -1, 0, 1), of(6, -5, 1))
}

// All polynomials of which the squares of some divide others.
func TestI7SmallPolynomials(t *testing.T) {
	for _, f := range small(5, 2) {
		expectSquares(t, f)
	}
	for _, f := range small(3, 2) {
		for _, g := range small(3, 1) {
			expectSquares(t, product(rat(-3, 2), g, f))
		}
	}
	for _, f := range samples() {
		expectSquares(t, f)
		expectSquares(t, dense.Mul(f, f))
	}
}

// Products of powers in which any may be skipped.
func TestI7SkippedPowers(t *testing.T) {
	factors := [][]api.Rat{of(1, 1), of(1, 0, 1), of(0, 1), {rat(-2, 3), rat(1, 1)}, {rat(1, 5), rat(3, 2), rat(1, 1)}}
	for chosen := range 1 << len(factors) {
		want := slices.Repeat([][]api.Rat{of(1)}, len(factors))
		last := 0
		for i, factor := range factors {
			if chosen>>i&1 == 1 {
				want[i], last = factor, i+1
			}
		}
		f := product(rat(-4, 7), want...)
		expectFactors(t, f, want[:last]...)
		expectSquares(t, f)
	}
}

func TestI7GreatPowers(t *testing.T) {
	for n := 1; n <= 20; n++ {
		want := append(slices.Repeat([][]api.Rat{of(1)}, n-1), []api.Rat{rat(3, 2), rat(1, 1)})
		expectFactors(t, product(rat(2, 1), want...), want...)
	}
	power := append(make([]api.Rat, 200), fraction.Of(-6))
	expectFactors(t, power, append(slices.Repeat([][]api.Rat{of(1)}, 199), of(0, 1))...)
	expectList(t, dense.Radical(power), of(0, 1), "Radical of -6*x^200")
	s := noise(8)
	expectSquares(t, product(rat(1, 9), s.plain(6, 99, 1), s.plain(4, 99, 5), of(1), s.plain(2, 99, 1)))
	expectSquares(t, s.plain(30, 999, 1))
}
