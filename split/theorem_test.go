package split_test

import (
	"slices"
	"testing"

	"primrose/modular"
	"primrose/prime"
	"primrose/split"
)

// expectTheorem holds what defines a factorization: there is only one.
func expectTheorem(t *testing.T, f []int, p int) {
	t.Helper()
	l := factored(t, f, p)
	if !slices.Equal(product(l, p), modular.Monic(f, p)) || !isSame(l, sorted(l)) {
		t.Fatalf("Factor of %v modulo %d: %v", f, p, l)
	}
	for _, g := range l {
		if !isIrreducible(g, p) || g[len(g)-1] != 1 || !slices.Equal(g, modular.Plain(g, p)) {
			t.Fatalf("Factor of %v modulo %d: %v", f, p, g)
		}
	}
	expectFactors(t, f, p, l, []int{1, 2, 3}, []int{-5})
}

func TestK4Polynomials(t *testing.T) {
	for _, p := range primes() {
		s := noise(p + 2)
		for n := 1; n <= 16; n++ {
			expectTheorem(t, s.plain(n, p), p)
			expectTheorem(t, s.disguise(s.plain(n, p), p), p)
			f, g := s.plain(1+n/2, p), s.plain(1+n/3, p)
			expectTheorem(t, modular.Mul(f, modular.Mul(f, g, p), p), p)
		}
	}
	for _, p := range []int{2, 3, 5, 7} {
		s := noise(p + 3)
		for range 30 {
			expectTheorem(t, s.plain(1+s.below(60), p), p)
		}
	}
}

// The factors of a product are those of both.
func TestK4Products(t *testing.T) {
	for _, p := range primes() {
		s := noise(p + 4)
		for n := range 20 {
			f, g := s.plain(1+n%8, p), s.plain(1+n%5, p)
			expectFactors(t, modular.Mul(f, g, p), p, sorted(factored(t, f, p), factored(t, g, p)))
			expectFactors(t, modular.Mul(f, f, p), p, sorted(factored(t, f, p), factored(t, f, p)))
		}
	}
}

// The factors of x to the power of p*n - 1 are those for n, each p times.
func TestK4Frobenius(t *testing.T) {
	for _, p := range []int{2, 3, 5, 7} {
		s := noise(p + 5)
		for n := 1; n < 9; n++ {
			f := s.plain(n, p)
			wide := make([]int, (n-1)*p+1)
			for i, c := range f {
				wide[i*p] = c
			}
			expectFactors(t, wide, p, sorted(slices.Repeat(factored(t, f, p), p)))
		}
	}
}

// order is the least exponent for which m divides p to its power, minus 1.
func order(p, m int) int {
	n := 1
	for power := p % m; power != 1%m; power = power * p % m {
		n++
	}
	return n
}

// For each m that divides n, x^n - 1 has factors of the degree of p's order
// modulo m: as many as residues modulo m have an inverse, divided by that order.
func TestK4RootsOfUnity(t *testing.T) {
	for _, p := range primes() {
		for n := 1; n <= 24; n++ {
			if n%p == 0 {
				continue
			}
			want := make([]int, n+1)
			for a := range n { // the power by a of a root of unity
				m := n
				for d := 2; d <= m; d++ {
					for m%d == 0 && a%(n/(m/d)) == 0 {
						m /= d
					}
				}
				want[order(p, m)]++
			}
			f := make([]int, n+1)
			f[0], f[n] = -1, 1
			got := make([]int, n+1)
			for _, g := range factored(t, f, p) {
				got[len(g)-1] += len(g) - 1
			}
			if !slices.Equal(got, want) {
				t.Errorf("x^%d - 1 modulo %d: %v, not %v", n, p, got, want)
			}
			expectTheorem(t, f, p)
		}
	}
}

// The values of x at which a polynomial of degree 2 or 3 is 0 are its factors of
// degree 1.
func TestK4Roots(t *testing.T) {
	for _, p := range []int{7, 101, 1009} {
		s := noise(p + 6)
		for n := range 40 {
			f := s.plain(3+n%2, p)
			var roots []int
			for x := range p {
				if modular.Eval(f, x, p) == 0 {
					roots = append(roots, x)
				}
			}
			if split.Irreducible(f, p) != (len(roots) == 0) {
				t.Errorf("Irreducible of %v modulo %d with the roots %v", f, p, roots)
			}
			want := [][]int{}
			for _, x := range roots {
				want = append(want, []int{(p - x) % p, 1})
			}
			l := slices.DeleteFunc(factored(t, f, p), func(g []int) bool { return len(g) > 2 })
			if l = slices.CompactFunc(l, slices.Equal); !isSame(l, sorted(want)) {
				t.Errorf("Factor of %v modulo %d: %v, not %v", f, p, l, want)
			}
		}
	}
}

// With x + c for x, the factors are those with x + c for x.
func TestK4Shifts(t *testing.T) {
	at := func(f []int, c, p int) []int {
		var g []int
		for i := len(f) - 1; i >= 0; i-- {
			g = modular.Add(modular.Mul(g, []int{c, 1}, p), []int{f[i]}, p)
		}
		return g
	}
	for _, p := range primes() {
		s := noise(p + 7)
		for n := 1; n < 12; n++ {
			f, c := s.plain(n, p), s.below(p)
			var want [][]int
			for _, g := range factored(t, f, p) {
				want = append(want, at(g, c, p))
			}
			expectFactors(t, at(f, c, p), p, sorted(want))
		}
	}
}

// Many factors of one degree modulo the greatest prime take a moment.
func TestManyFactors(t *testing.T) {
	p := greatest
	var want [][]int
	for n := range 60 {
		want = append(want, []int{prime.Mul(n*n, n*n, p) + 3, 1})
		want = append(want, binomial(2, -1, n*n, p)) // -1 has no root, as p leaves 3 for 4
	}
	expectFactors(t, product(want, p), p, sorted(want), []int{8})
}
