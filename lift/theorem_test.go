package lift_test

import (
	"math/big"
	"slices"
	"testing"

	"primrose/api"
	"primrose/lift"
	"primrose/modular"
)

// lifted is an answer of Lift, whose error has to be OK.
func lifted(t *testing.T, f []*big.Int, l [][]int, p, k int) [][]*big.Int {
	t.Helper()
	got, e := lift.Lift(fromBig(f), l, p, k)
	if e != api.OK {
		t.Fatalf("Lift of %v, %v, %d, %d: %d", f, l, p, k, e)
	}
	var all [][]*big.Int
	for _, g := range got {
		all = append(all, toBig(g))
	}
	return all
}

func isEqual(f, g []*big.Int) bool {
	return slices.EqualFunc(f, g, func(a, b *big.Int) bool { return a.Cmp(b) == 0 })
}

// sample makes a monic polynomial of the degree of the product of l that is this
// product modulo p, but has no factors of its own.
func (s *noise) sample(l [][]int, p int) []*big.Int {
	all := []int{1}
	for _, g := range l {
		all = modular.Mul(all, g, p)
	}
	f := bigs(all...)
	for i := range len(f) - 1 {
		multiple := new(big.Int).Mul(s.great(power(p, 20)), big.NewInt(int64(p)))
		f[i].Add(f[i], multiple)
	}
	return f
}

func TestL3SmallerPowers(t *testing.T) {
	for _, p := range primes() {
		s := noise(p + 7)
		for n := range 5 {
			l := reducedAll(s.factors(2+n, 3, p, power(p, 1)), p)
			f := s.sample(l, p)
			most := lifted(t, f, l, p, 25)
			for k := 1; k <= 25; k++ {
				q := power(p, k)
				expectDefinition(t, f, l, p, k)
				for i, g := range lifted(t, f, l, p, k) {
					if !isEqual(g, modulo(most[i], q)) {
						t.Fatalf("L3: Lift of %v, %v, %d, %d: %v, not %v", f, l, p, k, g, modulo(most[i], q))
					}
				}
			}
		}
	}
}

// The factors, multiplied in part, are the lifted ones of what was multiplied.
func TestL3Products(t *testing.T) {
	for _, p := range primes() {
		s, q := noise(p+8), power(p, 11)
		for n := range 10 {
			l := reducedAll(s.factors(3, 2+n%3, p, q), p)
			if len(l) < 3 {
				continue
			}
			f := s.sample(l, p)
			three := lifted(t, f, l, p, 11)
			two := lifted(t, f, [][]int{l[1], modular.Mul(l[0], l[2], p)}, p, 11)
			if !isEqual(two[0], three[1]) || !isEqual(two[1], modulo(mul(three[0], three[2]), q)) {
				t.Fatalf("Lift of %v, %v, %d: %v and %v", f, l, p, three, two)
			}
			expectFactors(t, fromBig(f), [][]int{l[2], l[0], l[1]}, p, 11, [][]*big.Int{three[2], three[0], three[1]})
		}
	}
}

// Only f modulo p^k counts.
func TestL3Residues(t *testing.T) {
	for _, p := range primes() {
		s := noise(p + 9)
		for k := 1; k < 20; k++ {
			l := reducedAll(s.factors(2, 4, p, power(p, 1)), p)
			f := s.sample(l, p)
			want := lifted(t, f, l, p, k)
			expectFactors(t, s.loose(s.change(f, power(p, k))), s.disguiseAll(l, p), p, k, want)
		}
	}
}

// With the factors near 0, those of a product with small coefficients are found.
func TestL3Near(t *testing.T) {
	for _, p := range []int{3, 7, 101, greatest} {
		s := noise(p + 10)
		for range 10 {
			l := s.factors(3, 3, p, big.NewInt(1000))
			for _, g := range l {
				for i := range len(g) - 1 {
					g[i].Sub(g[i], big.NewInt(500))
				}
			}
			plain := reducedAll(l, p)
			if slices.ContainsFunc([]int{1, 2}, func(i int) bool {
				return i < len(l) && len(modular.Gcd(plain[i], reduced(product(l[:i]), p), p)) > 1
			}) {
				continue
			}
			got, e := lift.Lift(fromBig(product(l)), plain, p, 7)
			if e != api.OK {
				t.Fatalf("Lift of %v, %d: %d", l, p, e)
			}
			for i, g := range got {
				expectNear(t, g, p, 7, l[i])
			}
		}
	}
}
