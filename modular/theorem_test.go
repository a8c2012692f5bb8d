package modular_test

import (
	"slices"
	"testing"

	"primrose/api"
	"primrose/modular"
)

func TestJ7Ring(t *testing.T) {
	for _, p := range primes() {
		for _, f := range few(p) {
			plain := modular.Plain(f, p)
			expect(t, modular.Add(f, nil, p), plain, "f + 0", f, p)
			expect(t, modular.Mul(f, []int{1}, p), plain, "f * 1", f, p)
			expect(t, modular.Scale(f, 1, p), plain, "f * 1", f, p)
			expect(t, modular.Sub(f, f, p), nil, "f - f", f, p)
			expect(t, modular.Add(f, modular.Scale(f, -1, p), p), nil, "f + -f", f, p)
			for _, g := range few(p) {
				sum, product := modular.Add(f, g, p), modular.Mul(f, g, p)
				expect(t, modular.Add(g, f, p), sum, "f + g", f, g, p)
				expect(t, modular.Mul(g, f, p), product, "f * g", f, g, p)
				expect(t, modular.Sub(sum, g, p), plain, "f + g - g", f, g, p)
				for _, h := range few(p) {
					expect(t, modular.Add(sum, h, p), modular.Add(f, modular.Add(g, h, p), p), "f + g + h", f, g, h, p)
					expect(t, modular.Mul(product, h, p), modular.Mul(f, modular.Mul(g, h, p), p), "f * g * h", f, g, h, p)
					expect(t, modular.Mul(sum, h, p), modular.Add(modular.Mul(f, h, p), modular.Mul(g, h, p), p), "(f + g) * h", f, g, h, p)
				}
			}
		}
	}
}

// The common divisor divides both; all that divides both divides it.
func TestJ7Euclid(t *testing.T) {
	for _, p := range primes() {
		for _, f := range few(p) {
			for _, g := range few(p) {
				d := modular.Gcd(f, g, p)
				for _, h := range few(p) {
					want := modular.Monic(modular.Mul(d, h, p), p)
					expect(t, modular.Gcd(modular.Mul(f, h, p), modular.Mul(g, h, p), p), want, "Gcd", f, g, h, p)
				}
				if len(d) == 0 {
					continue
				}
				for _, multiple := range [][]int{f, g} {
					if _, r, e := modular.DivMod(multiple, d, p); len(r) != 0 || e != api.OK {
						t.Errorf("Gcd of %v and %v modulo %d leaves %v", f, g, p, r)
					}
				}
			}
		}
	}
}

// Rules of the derivative and of values.
func TestJ7DerivAndEval(t *testing.T) {
	for _, p := range primes() {
		for _, f := range few(p) {
			slope := modular.Deriv(f, p)
			for _, g := range few(p) {
				other := modular.Deriv(g, p)
				product := modular.Mul(f, g, p)
				expect(t, modular.Deriv(modular.Add(f, g, p), p), modular.Add(slope, other, p), "Deriv of a sum", f, g, p)
				expect(t, modular.Deriv(product, p), modular.Add(modular.Mul(slope, g, p), modular.Mul(f, other, p), p), "Deriv of a product", f, g, p)
				for _, x := range ints(p) {
					_, r, _ := modular.DivMod(f, []int{-(x % p), 1}, p)
					value := modular.Eval(f, x, p)
					expect(t, r, modular.Plain([]int{value}, p), "the rest for x - a", f, x, p)
					if modular.Eval(product, x, p) != value*modular.Eval(g, x, p)%p {
						t.Errorf("Eval of %v times %v modulo %d at %d", f, g, p, x)
					}
				}
			}
		}
	}
}

// The p-th power of a sum is the sum of the p-th powers.
func TestJ7Frobenius(t *testing.T) {
	for _, p := range primes() {
		for _, m := range few(p) {
			if len(modular.Plain(m, p)) == 0 {
				continue
			}
			for _, f := range few(p) {
				for _, g := range few(p) {
					want := modular.Add(pow(t, f, p, m, p), pow(t, g, p, m, p), p)
					expect(t, pow(t, modular.Add(f, g, p), p, m, p), want, "power of a sum", f, g, m, p)
				}
			}
		}
	}
}

// Without a division by m, the p-th power has the coefficients of f at multiples
// of p.
func TestJ7WholePowers(t *testing.T) {
	for _, p := range []int{2, 3, 5, 7, 101} {
		s := noise(p)
		for n := range 5 {
			f := s.plain(n, p)
			want := make([]int, max(1+(n-1)*p, 0))
			for i, c := range f {
				want[i*p] = c
			}
			high := append(make([]int, n*p+1), 1)
			expect(t, pow(t, f, p, high, p), want[:max(1+(n-1)*p, 0)], "power", f, p)
		}
	}
}

// Powers of one f are multiplied by adding exponents.
func TestJ7Exponents(t *testing.T) {
	for _, p := range primes() {
		s := noise(p)
		for n := 2; n < 8; n++ {
			f, m := s.plain(n, p), s.plain(n, p)
			for range 5 {
				i, k := s.below(greatest), s.below(greatest)
				_, want, _ := modular.DivMod(modular.Mul(pow(t, f, i, m, p), pow(t, f, k, m, p), p), m, p)
				expect(t, pow(t, f, i+k, m, p), want, "power", f, i, k, m, p)
				expect(t, pow(t, f, i*k, m, p), pow(t, pow(t, f, i, m, p), k, m, p), "power of a power", f, i, k, m, p)
			}
		}
	}
}

// Long lists are worked through in a moment also modulo the greatest prime, for
// which it takes longer than many products to find that it is one.
func TestLongLists(t *testing.T) {
	p := greatest
	s := noise(9)
	f, g, rest := s.plain(2000, p), s.plain(1500, p), s.plain(1400, p)
	product := modular.Mul(f, g, p)
	q, r, e := modular.DivMod(modular.Add(product, rest, p), g, p)
	if !slices.Equal(q, f) || !slices.Equal(r, rest) || e != api.OK {
		t.Errorf("DivMod of a long product: %d", e)
	}
	for _, x := range []int{1, -1, 2, 1 << 40, greatest / 3} {
		if modular.Eval(product, x, p) != modular.Eval(f, x, p)*modular.Eval(g, x, p)%p {
			t.Errorf("a long product at %d", x)
		}
	}
	common := modular.Monic(f[:300], p)
	expect(t, modular.Gcd(modular.Mul(common, f[400:900], p), modular.Mul(common, g[:400], p), p), common, "Gcd")
	expect(t, modular.Deriv(append(product, 0), p), modular.Add(modular.Mul(modular.Deriv(f, p), g, p), modular.Mul(f, modular.Deriv(g, p), p), p), "Deriv")
	x := pow(t, []int{0, 1}, p, f[:150], p)
	y := pow(t, []int{5, 1}, p, f[:150], p)
	expect(t, modular.Sub(y, x, p), []int{5}, "Pow")
}
