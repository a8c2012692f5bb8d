package factor_test

import (
	"math/big"
	"testing"

	"primrose/api"
	"primrose/factor"
)

// expectDivides holds an answer of Divides against division by fractions.
func expectDivides(t *testing.T, f, g []api.Int) {
	t.Helper()
	var want []*big.Int
	isWhole := false
	if len(trimmed(toBig(g))) > 0 {
		want, _, isWhole = quotient(toBig(f), toBig(g))
	}
	got, ok := factor.Divides(f, g)
	if ok != isWhole || ok && !isForm(got, want) || !ok && len(got) != 0 {
		t.Fatalf("M3: Divides of %v, %v: %v, %t, not %v, %t", toBig(f), toBig(g), got, ok, want, isWhole)
	}
}

func TestM3Examples(t *testing.T) {
	for _, x := range []struct {
		f, g, want []int
		ok         bool
	}{
		{[]int{-1, 0, 1}, []int{1, 1}, []int{-1, 1}, true},
		{[]int{-1, 0, 1}, []int{-1, -1}, []int{1, -1}, true},
		{[]int{1, 0, -1}, []int{1, 1}, []int{1, -1}, true},
		{[]int{-1, 0, 1, 0, 0}, []int{1, 1, 0}, []int{-1, 1}, true},
		{[]int{6, 0, -4}, []int{2}, []int{3, 0, -2}, true},
		{[]int{6, 0, -4}, []int{-2}, []int{-3, 0, 2}, true},
		{[]int{6, 0, -4}, []int{1}, []int{6, 0, -4}, true},
		{[]int{6, 0, -4}, []int{-1, 0}, []int{-6, 0, 4}, true},
		{[]int{6, 0, -4}, []int{6, 0, -4}, []int{1}, true},
		{[]int{6, 0, -4}, []int{3, 0, -2}, []int{2}, true},
		{[]int{0, 0, 6}, []int{0, 2}, []int{0, 3}, true},
		{[]int{0, 0, 6}, []int{0, 0, -1}, []int{-6}, true},
		{[]int{-12}, []int{4}, []int{-3}, true},
		{[]int{0}, []int{2}, nil, true},
		{nil, []int{1, 1}, nil, true},
		{[]int{0, 0, 0}, []int{-3, 0, 5, 0}, nil, true},
		// Over the fractions alone.
		{[]int{1, 1}, []int{2, 2}, nil, false},
		{[]int{2, 3, 1}, []int{2, 2}, nil, false},
		{[]int{6, 0, -4}, []int{3}, nil, false},
		{[]int{6, 0, -4}, []int{4}, nil, false},
		{[]int{6, 0, -4}, []int{6, 0, -4, 0, 0, 0, 0, 1}, nil, false},
		{[]int{3, 0, -2}, []int{6, 0, -4}, nil, false},
		{[]int{3}, []int{2}, nil, false},
		{[]int{1}, []int{-2}, nil, false},
		{[]int{1, 3, 2}, []int{4, 4}, nil, false},
		// With a rest.
		{[]int{1, 0, 1}, []int{1, 1}, nil, false},
		{[]int{1, 0, 1}, []int{2, 2}, nil, false},
		{[]int{1, 0, 1}, []int{0, 1}, nil, false},
		{[]int{1, 0, 0, 1}, []int{0, 0, 1}, nil, false},
		{[]int{0, 1, 0, 1}, []int{0, 0, 1}, nil, false},
		{[]int{2, 0, 1}, []int{1, 0, 1}, nil, false},
		// Of a greater degree.
		{[]int{1, 1}, []int{1, 2, 1}, nil, false},
		{[]int{5}, []int{0, 1}, nil, false},
		{[]int{5}, []int{5, 0, 0, 1}, nil, false},
		{[]int{0, 1}, []int{0, 0, 1}, nil, false},
	} {
		got, ok := factor.Divides(of(x.f...), of(x.g...))
		if ok != x.ok || !isForm(got, bigs(x.want...)) {
			t.Errorf("M3: Divides of %v, %v: %v, %t", x.f, x.g, toBig(got), ok)
		}
		expectDivides(t, of(x.f...), of(x.g...))
	}
}

func TestM3Zero(t *testing.T) {
	for _, zero := range zeros() {
		for _, f := range append(zeros(), of(1), of(-7), of(0, 1), of(2, 2, 0)) {
			if q, ok := factor.Divides(f, zero); ok || len(q) != 0 {
				t.Errorf("M3: Divides of %v, %v: %v, %t", f, zero, q, ok)
			}
		}
		for _, g := range [][]api.Int{of(1), of(-7), of(0, 1), of(2, 2, 0), of(-1, 0, 0, 5)} {
			if q, ok := factor.Divides(zero, g); !ok || len(q) != 0 {
				t.Errorf("M3: Divides of %v, %v: %v, %t", zero, g, q, ok)
			}
		}
	}
}

// All polynomials of degree 3 and 1 with small coefficients, also 0.
func TestM3SmallPolynomials(t *testing.T) {
	for n := range 7 * 7 * 7 * 7 {
		f := of(n%7-3, n/7%7-3, n/49%7-3, n/343-3)
		for m := range 9 * 9 {
			expectDivides(t, f, of(m%9-4, m/9-4))
		}
	}
}

func TestM3Products(t *testing.T) {
	s := noise(2)
	for n := range 400 {
		var f, g []*big.Int
		for range 1 + n%9 {
			f = append(f, s.great(s.below(n+1)))
		}
		for range 1 + s.below(6) {
			g = append(g, s.great(s.below(150)))
		}
		g = append(g, big.NewInt(int64(1+s.below(5))))
		all := mul(f, g)
		expectDivides(t, s.loose(all), s.loose(g))
		got, ok := factor.Divides(s.loose(all), s.loose(g))
		if !ok || !isForm(got, trimmed(f)) {
			t.Fatalf("M3: Divides of %v, %v: %v, %t", all, g, toBig(got), ok)
		}
		// Spoiled at one place, or divided by a multiple.
		i := s.below(len(all))
		all[i].Add(all[i], big.NewInt(1))
		expectDivides(t, s.loose(all), s.loose(g))
		expectDivides(t, s.loose(scaled(all, big.NewInt(6))), s.loose(scaled(g, big.NewInt(int64(2+s.below(5))))))
	}
}

// The quotient may have coefficients that are much greater.
func TestM3GreatQuotients(t *testing.T) {
	f := make([]int, 106)
	f[0], f[105] = -1, 1
	all := bigs(f...)
	for _, d := range []int{1, 3, 5, 7, 15, 21, 35, 105} {
		expectDivides(t, fromBig(all), fromBig(cyclotomic(d)))
	}
	for _, d := range []int{2, 4, 9, 11, 30} {
		expectDivides(t, fromBig(all), fromBig(cyclotomic(d)))
	}
	expectDivides(t, fromBig(all), []api.Int{{Neg: true, Mag: []uint32{0, 1}}, {Mag: []uint32{1}}})
}
