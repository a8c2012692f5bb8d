package modular_test

import (
	"math"
	"slices"
	"testing"

	"primrose/api"
	"primrose/modular"
)

func TestJ1Plain(t *testing.T) {
	for _, x := range []struct {
		p       int
		f, want []int
	}{
		{5, []int{7, -1, 5}, []int{2, 4}},
		{2, []int{-1, 2, 3, -4}, []int{1, 0, 1}},
		{2, []int{math.MinInt, math.MaxInt, math.MinInt}, []int{0, 1}},
		{7, []int{math.MinInt, math.MaxInt}, []int{6}},
		{3, []int{1, 0, 3, -3, 0}, []int{1}},
		{greatest, []int{-1, greatest, greatest + 1, math.MinInt, math.MaxInt}, []int{greatest - 1, 0, 1, greatest - 2, 1}},
		{greatest, []int{0, 1 << 31, -1 << 31}, []int{0, 1, greatest - 1}},
	} {
		expect(t, modular.Plain(x.f, x.p), x.want, "Plain", x.f, x.p)
	}
}

func TestJ1SamplesAndNothings(t *testing.T) {
	for _, p := range primes() {
		r := over(p)
		for _, f := range samples(p) {
			got := modular.Plain(f, p)
			if !isPlain(got, p) {
				t.Errorf("Plain of %v modulo %d: %v", f, p, got)
			}
			expect(t, got, r.read(f).write(), "Plain", f, p)
			expect(t, modular.Plain(got, p), got, "Plain again", f, p)
		}
		for _, c := range ints(p) {
			expect(t, modular.Plain([]int{c, c}, p), r.read([]int{c, c}).write(), "Plain", c, p)
		}
		for _, f := range nothings(p) {
			expect(t, modular.Plain(f, p), nil, "Plain", f, p)
		}
	}
}

// arguments are lists for calls that have to fail, as each would be answered
// otherwise.
func arguments() [][]int {
	return [][]int{nil, {0}, {1}, {5, -3, 1}, {2, 0, 7, 1}, {math.MaxInt, math.MinInt}}
}

// No call answers anything for a p that is no prime; errors come first (J3, J6).
func TestNoPrimes(t *testing.T) {
	for _, p := range noPrimes() {
		for _, f := range arguments() {
			for _, g := range arguments() {
				for _, l := range [][]int{modular.Add(f, g, p), modular.Sub(f, g, p), modular.Mul(f, g, p), modular.Gcd(f, g, p)} {
					expect(t, l, nil, f, g, p)
				}
				q, r, e := modular.DivMod(f, g, p)
				if len(q) != 0 || len(r) != 0 || e != api.ErrPrime {
					t.Errorf("DivMod of %v by %v modulo %d: %v, %v, %d", f, g, p, q, r, e)
				}
				for _, n := range []int{0, 1, 2, math.MaxInt, -1, math.MinInt} {
					if l, e := modular.Pow(f, n, g, p); len(l) != 0 || e != api.ErrPrime {
						t.Errorf("Pow of %v by %d, divided by %v modulo %d: %v, %d", f, n, g, p, l, e)
					}
				}
			}
			for _, c := range []int{0, 1, -1, 3, math.MaxInt, math.MinInt} {
				expect(t, modular.Scale(f, c, p), nil, "Scale", f, c, p)
				if value := modular.Eval(f, c, p); value != 0 {
					t.Errorf("Eval of %v at %d modulo %d: %d", f, c, p, value)
				}
			}
			expect(t, modular.Plain(f, p), nil, "Plain", f, p)
			expect(t, modular.Monic(f, p), nil, "Monic", f, p)
			expect(t, modular.Deriv(f, p), nil, "Deriv", f, p)
		}
	}
}

func TestJ2Examples(t *testing.T) {
	all := []int{math.MinInt, math.MaxInt}
	for _, x := range []struct {
		p                        int
		f, g, sum, less, product []int
	}{
		{5, []int{1, 1}, []int{-1, 1}, []int{0, 2}, []int{2}, []int{4, 0, 1}},
		{3, []int{1, 2}, []int{2, 1}, nil, []int{2, 1}, []int{2, 2, 2}},
		{2, []int{1, 1}, []int{1, 1}, nil, nil, []int{1, 0, 1}},
		{7, []int{1, 2, 3}, []int{0, 0, 3}, []int{1, 2, 6}, []int{1, 2}, []int{0, 0, 3, 6, 2}},
		{7, []int{1, 2, 3}, []int{0, 0, -3}, []int{1, 2}, []int{1, 2, 6}, []int{0, 0, 4, 1, 5}},
		{3, nil, []int{0, 1}, []int{0, 1}, []int{0, 2}, nil},
		{3, []int{0, 1, 3}, []int{-6}, []int{0, 1}, []int{0, 1}, nil},
		{greatest, []int{greatest - 1}, []int{greatest - 1}, []int{greatest - 2}, nil, []int{1}},
		{2, all, all, nil, nil, []int{0, 0, 1}},
		{7, all, []int{1}, nil, []int{5}, []int{6}},
	} {
		expect(t, modular.Add(x.f, x.g, x.p), x.sum, "Add", x.f, x.g, x.p)
		expect(t, modular.Sub(x.f, x.g, x.p), x.less, "Sub", x.f, x.g, x.p)
		expect(t, modular.Mul(x.f, x.g, x.p), x.product, "Mul", x.f, x.g, x.p)
	}
	expect(t, modular.Sub([]int{1}, []int{0, 1}, 3), []int{1, 2}, "Sub")
	expect(t, modular.Scale([]int{1, 2}, -1, 7), []int{6, 5}, "Scale")
	expect(t, modular.Scale([]int{1, 2}, 14, 7), nil, "Scale by 0")
	expect(t, modular.Scale([]int{3, 4}, math.MinInt, 2), nil, "Scale by an even number")
	expect(t, modular.Scale([]int{3, 4, 5}, math.MaxInt, 2), []int{1, 0, 1}, "Scale by an odd number")
	expect(t, modular.Scale([]int{1, math.MaxInt, math.MinInt}, math.MinInt, greatest), []int{greatest - 2, greatest - 2, 4}, "Scale")
}

func expectSums(t *testing.T, f, g []int, p int) {
	t.Helper()
	r := over(p)
	a, b := r.read(f), r.read(g)
	expect(t, modular.Add(f, g, p), r.plus(a, b).write(), "Add", f, g, p)
	expect(t, modular.Sub(f, g, p), r.minus(a, b).write(), "Sub", f, g, p)
	expect(t, modular.Mul(f, g, p), r.times(a, b).write(), "Mul", f, g, p)
}

func TestJ2Samples(t *testing.T) {
	for _, p := range primes() {
		r := over(p)
		for _, f := range samples(p) {
			for _, g := range samples(p) {
				expectSums(t, f, g, p)
			}
			for _, c := range ints(p) {
				expect(t, modular.Scale(f, c, p), r.scaled(r.read(f), large(c)).write(), "Scale", f, c, p)
			}
		}
	}
}

func TestJ2SmallPolynomials(t *testing.T) {
	for p, n := range map[int]int{2: 5, 3: 3, 5: 2} {
		for _, f := range small(n, p) {
			for _, g := range small(n, p) {
				expectSums(t, f, g, p)
			}
		}
	}
}

// Many products, each as great as can be, are added in one coefficient.
func TestJ2GreatCoefficients(t *testing.T) {
	for _, p := range []int{2, 3, 2147483629, greatest} {
		for _, n := range []int{1, 2, 3, 4, 5, 16, 33, 200} {
			f := slices.Repeat([]int{p - 1}, n)
			want := make([]int, 2*n-1)
			for i := range want {
				want[i] = min(i+1, 2*n-1-i)
			}
			expect(t, modular.Mul(f, f, p), modular.Plain(want, p), "Mul", n, p)
		}
	}
}

func TestJ5Deriv(t *testing.T) {
	for _, x := range []struct {
		p       int
		f, want []int
	}{
		{3, []int{1, 0, 0, 1}, nil},
		{5, []int{1, 0, 0, 1}, []int{0, 0, 3}},
		{2, []int{1, 1, 1, 1}, []int{1, 0, 1}},
		{3, []int{0, 1, 0, 5, 0}, []int{1}},
		{7, []int{4, 5, -1, 7}, []int{5, 5}},
		{5, []int{0, 0, 0, 0, 0, 1, 0, 0, 0, 0, 4}, nil},
		{greatest, []int{math.MaxInt, math.MinInt, math.MinInt}, []int{greatest - 2, greatest - 4}},
		{2, []int{math.MaxInt, math.MaxInt, math.MaxInt, math.MinInt}, []int{1}},
	} {
		expect(t, modular.Deriv(x.f, x.p), x.want, "Deriv", x.f, x.p)
	}
	for _, p := range primes() {
		for _, f := range append(nothings(p), constants(p)...) {
			expect(t, modular.Deriv(f, p), nil, "Deriv", f, p)
		}
		for _, f := range samples(p) {
			r := over(p)
			expect(t, modular.Deriv(f, p), r.derivative(r.read(f)).write(), "Deriv", f, p)
		}
	}
}

// The p-th power of a polynomial has only exponents that p divides.
func TestJ5DerivOfPowers(t *testing.T) {
	for _, p := range []int{2, 3, 5, 101} {
		s := noise(p)
		for n := range 4 {
			f := s.plain(n, p)
			power := []int{1}
			for range p {
				power = modular.Mul(power, f, p)
			}
			expect(t, modular.Deriv(power, p), nil, "Deriv of a power", f, p)
			product := modular.Mul(power, []int{1, 1}, p)
			expect(t, modular.Deriv(product, p), power, "Deriv of a power times x + 1", f, p)
		}
	}
}

func TestJ5Eval(t *testing.T) {
	for _, x := range []struct {
		p, x, want int
		f          []int
	}{
		{5, -1, 0, []int{1, 1}},
		{5, 2, 2, []int{1, 2, 3}},
		{2, 1, 1, []int{1, 1, 1}},
		{7, 0, 3, []int{-4, 5, 5}},
		{7, 14, 3, []int{-4, 5, 5}},
		{7, 3, 0, nil},
		{2, math.MaxInt, 1, []int{math.MinInt, math.MaxInt}},
		{2, math.MinInt, 0, []int{math.MinInt, math.MaxInt}},
		{greatest, math.MinInt, greatest - 2, []int{0, 1}},
		{greatest, math.MaxInt, 3, []int{1, 1, 1}},
		{greatest, greatest - 1, 0, []int{greatest - 1, 0, 1}},
	} {
		if got := modular.Eval(x.f, x.x, x.p); got != x.want {
			t.Errorf("Eval of %v at %d modulo %d: %d, not %d", x.f, x.x, x.p, got, x.want)
		}
	}
	for _, p := range primes() {
		r := over(p)
		for _, f := range samples(p) {
			for _, x := range ints(p) {
				if got, want := modular.Eval(f, x, p), r.value(r.read(f), x); got != want {
					t.Errorf("Eval of %v at %d modulo %d: %d, not %d", f, x, p, got, want)
				}
			}
		}
	}
}
