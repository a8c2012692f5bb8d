package modular_test

import (
	"math"
	"slices"
	"testing"

	"primrose/api"
	"primrose/modular"
)

func TestJ3Examples(t *testing.T) {
	for _, x := range []struct {
		p          int
		f, g, q, r []int
	}{
		{5, []int{4, 0, 1}, []int{4, 1}, []int{1, 1}, nil},
		{5, []int{4, 0, 1}, []int{2, 2}, []int{2, 3}, nil},
		{5, []int{4, 0, 1}, []int{2}, []int{2, 0, 3}, nil},
		{5, []int{4, 0, 1}, []int{-4, 10}, []int{4, 0, 1}, nil},
		{5, []int{4, 0, 1}, []int{1, 1, 1, 3}, nil, []int{4, 0, 1}},
		{5, []int{4, 0, 1}, []int{1, 0, 2}, []int{3}, []int{1}},
		{7, []int{1, 2, 3, 4}, []int{5, 6}, []int{2, 5, 3}, []int{5}},
		{2, []int{1, 0, 0, 0, 0, 1}, []int{1, 1, 1}, []int{1, 0, 1, 1}, []int{0, 1}},
		{3, nil, []int{1, 2}, nil, nil},
		{3, []int{3, -3}, []int{7}, nil, nil},
		{greatest, []int{math.MinInt, math.MaxInt}, []int{math.MaxInt, math.MinInt}, []int{(greatest - 1) / 2}, []int{(greatest - 3) / 2}},
	} {
		q, r, e := modular.DivMod(x.f, x.g, x.p)
		if !slices.Equal(q, x.q) || !slices.Equal(r, x.r) || e != api.OK {
			t.Errorf("DivMod of %v by %v modulo %d: %v, %v, %d", x.f, x.g, x.p, q, r, e)
		}
	}
}

func TestJ3Zero(t *testing.T) {
	for _, p := range primes() {
		for _, f := range samples(p) {
			for _, g := range nothings(p) {
				q, r, e := modular.DivMod(f, g, p)
				if len(q) != 0 || len(r) != 0 || e != api.ErrZero {
					t.Errorf("DivMod of %v by %v modulo %d: %v, %v, %d", f, g, p, q, r, e)
				}
			}
		}
	}
}

// expectDivision holds quotient and rest against what defines them: there is only
// one such pair.
func expectDivision(t *testing.T, f, g []int, p int) {
	t.Helper()
	ring := over(p)
	a, b := ring.read(f), ring.read(g)
	q, r, e := modular.DivMod(f, g, p)
	sum := ring.plus(ring.times(ring.read(q), b), ring.read(r))
	if e != api.OK || !isPlain(q, p) || !isPlain(r, p) || len(r) >= len(b) || !slices.Equal(sum.write(), a.write()) {
		t.Errorf("DivMod of %v by %v modulo %d: %v, %v, %d", f, g, p, q, r, e)
	}
}

func TestJ3Samples(t *testing.T) {
	for _, p := range primes() {
		r := over(p)
		for _, g := range samples(p) {
			if len(r.read(g)) == 0 {
				continue
			}
			for _, f := range samples(p) {
				expectDivision(t, f, g, p)
				product := r.times(r.read(f), r.read(g)).write()
				q, rest, e := modular.DivMod(product, g, p)
				expect(t, q, r.read(f).write(), "quotient of a product", f, g, p)
				if len(rest) != 0 || e != api.OK {
					t.Errorf("%v times %v modulo %d leaves %v, %d", f, g, p, rest, e)
				}
			}
		}
	}
}

func TestJ3SmallPolynomials(t *testing.T) {
	for p, n := range map[int]int{2: 5, 3: 3, 5: 2} {
		for _, f := range small(n, p) {
			for _, g := range small(n, p) {
				if slices.Max(append(g, 0)) > 0 {
					expectDivision(t, f, g, p)
				}
			}
		}
	}
}

// Great coefficients are subtracted from each other many times.
func TestJ3LongPolynomials(t *testing.T) {
	for _, p := range []int{2, 3, 101, 2147483629, greatest} {
		s := noise(p)
		for _, n := range []int{1, 2, 30, 59, 60, 70} {
			expectDivision(t, s.plain(60, p), s.plain(n, p), p)
			expectDivision(t, slices.Repeat([]int{p - 1}, 60), slices.Repeat([]int{p - 1}, n), p)
			expectDivision(t, slices.Repeat([]int{p - 1}, 60), append(slices.Repeat([]int{p - 1}, n), 1), p)
			expectDivision(t, slices.Repeat([]int{1}, 60), append(slices.Repeat([]int{p - 1}, n), (p+1)/2), p)
		}
	}
}

func TestJ4Monic(t *testing.T) {
	for _, x := range []struct {
		p       int
		f, want []int
	}{
		{7, []int{2, 3}, []int{3, 1}},
		{7, []int{2, 3, 7, 0}, []int{3, 1}},
		{7, []int{2, 1}, []int{2, 1}},
		{2, []int{math.MaxInt, math.MinInt, math.MaxInt}, []int{1, 0, 1}},
		{greatest, []int{1, 2}, []int{1 << 30, 1}},
		{greatest, []int{math.MaxInt, math.MinInt}, []int{(greatest - 1) / 2, 1}},
	} {
		expect(t, modular.Monic(x.f, x.p), x.want, "Monic", x.f, x.p)
	}
	for _, p := range primes() {
		r := over(p)
		for _, f := range samples(p) {
			expect(t, modular.Monic(f, p), r.monic(r.read(f)).write(), "Monic", f, p)
		}
		for _, f := range nothings(p) {
			expect(t, modular.Monic(f, p), nil, "Monic", f, p)
		}
		for _, f := range constants(p) {
			expect(t, modular.Monic(f, p), []int{1}, "Monic", f, p)
		}
	}
	for c := 1; c < 101; c++ {
		want := []int{int(over(101).monic(over(101).read([]int{1, c}))[0].Int64()), 1}
		expect(t, modular.Monic([]int{1, c}, 101), want, "Monic", c)
	}
}

func TestJ4GcdExamples(t *testing.T) {
	for _, x := range []struct {
		p          int
		f, g, want []int
	}{
		{5, []int{4, 0, 1}, []int{2, 2}, []int{1, 1}},
		{5, []int{4, 0, 1}, []int{4, 0, 1}, []int{4, 0, 1}},
		{5, []int{3, 0, 2}, []int{4, 0, 1}, []int{4, 0, 1}},
		{5, []int{0, 1}, []int{1, 1}, []int{1}},
		{2, []int{1, 0, 1}, []int{1, 0, 0, 1}, []int{1, 1}},
		{3, []int{0, 0, 2}, []int{0, 2, 0, 1}, []int{0, 1}},
		{greatest, []int{-1, 0, 1}, []int{math.MaxInt, math.MaxInt}, []int{1, 1}},
	} {
		expect(t, modular.Gcd(x.f, x.g, x.p), x.want, "Gcd", x.f, x.g, x.p)
		expect(t, modular.Gcd(x.g, x.f, x.p), x.want, "Gcd", x.g, x.f, x.p)
	}
	for _, p := range primes() {
		for _, f := range nothings(p) {
			for _, g := range nothings(p) {
				expect(t, modular.Gcd(f, g, p), nil, "Gcd", f, g, p)
			}
		}
		for _, c := range constants(p) {
			for _, f := range samples(p) {
				expect(t, modular.Gcd(c, f, p), []int{1}, "Gcd", c, f, p)
				expect(t, modular.Gcd(f, c, p), []int{1}, "Gcd", f, c, p)
			}
		}
	}
}

func TestJ4GcdSamples(t *testing.T) {
	for _, p := range primes() {
		r := over(p)
		for _, f := range samples(p) {
			a := r.read(f)
			for _, g := range samples(p) {
				expect(t, modular.Gcd(f, g, p), r.common(a, r.read(g)).write(), "Gcd", f, g, p)
			}
			for _, zero := range nothings(p) {
				expect(t, modular.Gcd(f, zero, p), r.monic(a).write(), "Gcd", f, zero, p)
				expect(t, modular.Gcd(zero, f, p), r.monic(a).write(), "Gcd", zero, f, p)
			}
			multiple := r.times(a, r.read([]int{3, -1, p - 1, 1})).write()
			expect(t, modular.Gcd(multiple, f, p), r.monic(a).write(), "Gcd with a multiple", f, p)
			expect(t, modular.Gcd(f, multiple, p), r.monic(a).write(), "Gcd with a multiple", f, p)
		}
	}
}

// factors are the monic polynomials among all that divide f.
func (r ring) factors(f polynomial, all [][]int) [][]int {
	var l [][]int
	for _, g := range all {
		if len(g) > 0 && g[len(g)-1] == 1 && len(r.rest(f, r.read(g))) == 0 {
			l = append(l, g)
		}
	}
	return l
}

// Of all monic polynomials that divide both, the last one is the longest.
func TestJ4GcdOfSmallPolynomials(t *testing.T) {
	for p, n := range map[int]int{2: 5, 3: 3, 5: 2} {
		all := small(n, p)
		r := over(p)
		for _, f := range all {
			factors := r.factors(r.read(f), all)
			for _, g := range all {
				if len(r.read(f)) == 0 && len(r.read(g)) == 0 {
					continue
				}
				both := r.factors(r.read(g), factors)
				expect(t, modular.Gcd(f, g, p), both[len(both)-1], "Gcd", f, g, p)
			}
		}
	}
}

// Products have their common factor, and no other one if what they are made of
// beside it are different roots.
func TestJ4GcdOfProducts(t *testing.T) {
	for _, p := range []int{101, 65537, 2147483629, greatest} {
		s := noise(p)
		for n := 1; n < 12; n++ {
			common := modular.Monic(s.plain(n, p), p)
			f, g := modular.Scale(common, s.below(p-1)+1, p), modular.Scale(common, p-1, p)
			for root := range 5 {
				f = modular.Mul(f, []int{-2 * root, 1}, p)
				g = modular.Mul(g, []int{3 + 6*root, -3}, p)
				expect(t, modular.Gcd(f, g, p), common, "Gcd", f, g, p)
				expect(t, modular.Gcd(g, f, p), common, "Gcd", g, f, p)
			}
		}
	}
}
