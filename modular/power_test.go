package modular_test

import (
	"math"
	"math/big"
	"slices"
	"testing"

	"primrose/api"
	"primrose/modular"
)

// pow is the power, whose error has to be OK.
func pow(t *testing.T, f []int, n int, m []int, p int) []int {
	t.Helper()
	l, e := modular.Pow(f, n, m, p)
	if e != api.OK {
		t.Fatalf("Pow of %v by %d, divided by %v modulo %d: %d", f, n, m, p, e)
	}
	return l
}

func TestJ6Examples(t *testing.T) {
	for _, x := range []struct {
		p, n       int
		f, m, want []int
	}{
		{5, 5, []int{0, 1}, []int{1, 0, 1}, []int{0, 1}},
		{5, 2, []int{0, 1}, []int{1, 0, 1}, []int{4}},
		{5, 3, []int{1, 1}, []int{0, 0, 2}, []int{1, 3}},
		{5, 3, []int{1, 1}, []int{0, 0, 0, 0, 3}, []int{1, 3, 3, 1}},
		{2, 3, []int{1, 1}, []int{1, 1, 1}, []int{1}},
		{7, 1, []int{1, 2, 3, 4}, []int{5, 6}, []int{5}},
		{7, 1, []int{1, 9}, []int{5, 6, 1, 0, 7}, []int{1, 2}},
		{7, 0, []int{1, 2, 3, 4}, []int{5, 6}, []int{1}},
		{7, 0, nil, []int{5, 6}, []int{1}},
		{7, 0, []int{7, 0, -7}, []int{5, 6}, []int{1}},
		{7, 0, []int{5, 6}, []int{5, 6}, []int{1}},
		{7, 1, []int{5, 6}, []int{5, 6}, nil},
		{7, 9, nil, []int{5, 6}, nil},
		{2, math.MaxInt, []int{1, 1}, []int{0, 1}, []int{1}},
		{2, math.MaxInt, []int{0, 1}, []int{0, 0, 0, 1}, nil},
		{greatest, greatest, []int{math.MinInt}, []int{0, 1}, []int{greatest - 2}},
		{greatest, 2, []int{math.MaxInt, math.MinInt}, []int{0, 0, 0, math.MaxInt}, []int{1, greatest - 4, 4}},
	} {
		expect(t, pow(t, x.f, x.n, x.m, x.p), x.want, "Pow", x.f, x.n, x.m, x.p)
	}
}

func TestJ6Errors(t *testing.T) {
	for _, p := range primes() {
		for _, f := range samples(p) {
			for _, m := range append(nothings(p), []int{1}, []int{0, 1}, []int{-1, p, 3}) {
				for _, n := range []int{-1, -2, math.MinInt, math.MinInt + 1} {
					if l, e := modular.Pow(f, n, m, p); len(l) != 0 || e != api.ErrArg {
						t.Errorf("Pow of %v by %d, divided by %v modulo %d: %v, %d", f, n, m, p, l, e)
					}
				}
			}
			for _, m := range nothings(p) {
				for _, n := range []int{0, 1, 2, math.MaxInt} {
					if l, e := modular.Pow(f, n, m, p); len(l) != 0 || e != api.ErrZero {
						t.Errorf("Pow of %v by %d, divided by %v modulo %d: %v, %d", f, n, m, p, l, e)
					}
				}
			}
		}
	}
}

// Constants leave nothing, not even of 1.
func TestJ6Constants(t *testing.T) {
	for _, p := range primes() {
		for _, f := range samples(p) {
			for _, m := range constants(p) {
				for _, n := range []int{0, 1, 2, p, math.MaxInt} {
					expect(t, pow(t, f, n, m, p), nil, "Pow", f, n, m, p)
				}
			}
		}
	}
}

func TestJ6Samples(t *testing.T) {
	for _, p := range primes() {
		r := over(p)
		for _, m := range few(p) {
			if len(r.read(m)) == 0 {
				continue
			}
			for _, f := range samples(p) {
				for _, n := range []int{0, 1, 2, 3, 6, 13, p, math.MaxInt} {
					expect(t, pow(t, f, n, m, p), r.power(r.read(f), n, r.read(m)).write(), "Pow", f, n, m, p)
				}
			}
		}
	}
}

// Each power is the one before it times f.
func TestJ6EachPower(t *testing.T) {
	for _, p := range []int{2, 3, 5, greatest} {
		s := noise(p)
		for n := 2; n < 6; n++ {
			m, f := s.plain(n, p), s.plain(n+1, p)
			want := []int{1}
			for i := range 70 {
				expect(t, pow(t, f, i, m, p), want, "Pow", f, i, m, p)
				_, want, _ = modular.DivMod(modular.Mul(want, f, p), m, p)
			}
		}
	}
}

// At each root of m, the rest has the value of the power.
func TestJ6GreatPowers(t *testing.T) {
	for _, p := range []int{7, 101, 2147483629, greatest} {
		s := noise(p)
		m := []int{p - 2}
		for root := range 6 {
			m = modular.Mul(m, []int{-root, 1}, p)
		}
		for _, n := range []int{p - 2, p - 1, p, p + 1, 1<<62 - 1, 1 << 62, math.MaxInt - 1, math.MaxInt} {
			f := s.list(9, p)
			rest := pow(t, f, n, m, p)
			for root := range 6 {
				value := large(modular.Eval(f, root, p))
				want := int(new(big.Int).Exp(value, large(n), large(p)).Int64())
				if got := modular.Eval(rest, root, p); got != want || len(rest) > 6 {
					t.Errorf("Pow of %v by %d modulo %d at %d: %d, not %d", f, n, p, root, got, want)
				}
			}
		}
	}
}

// x to the power of p^d leaves x if an irreducible polynomial of the degree d
// divides, and not before.
func TestJ6Irreducible(t *testing.T) {
	for _, x := range []struct {
		p int
		m []int
	}{
		{2, []int{1, 1, 1}}, {2, []int{1, 1, 0, 0, 1}}, {3, []int{2, 0, 2}}, {5, []int{1, 0, 3}}, {7, []int{5, 0, 0, 1}},
		{greatest, []int{1, 0, 1}}, {2147483629, []int{2, 0, -1}}, {2, []int{1, 0, 1, 0, 0, 1}},
	} {
		power := []int{0, 1}
		for i := range len(x.m) - 1 {
			if i > 0 && slices.Equal(power, []int{0, 1}) {
				t.Errorf("%v modulo %d: x after %d powers", x.m, x.p, i)
			}
			power = pow(t, power, x.p, x.m, x.p)
		}
		expect(t, power, []int{0, 1}, "x", x.m, x.p)
	}
}
