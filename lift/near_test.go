package lift_test

import (
	"math/big"
	"testing"

	"primrose/api"
	"primrose/lift"
)

// expectNear holds an answer of Near against what it has to be.
func expectNear(t *testing.T, f []api.Int, p, k int, want []*big.Int) {
	t.Helper()
	if got, e := lift.Near(f, p, k); e != api.OK || !isForm(got, want) {
		t.Fatalf("L2: Near of %v, %d, %d: %v, %d, not %v", toBig(f), p, k, got, e, want)
	}
}

func TestL2Examples(t *testing.T) {
	for _, x := range []struct {
		f    []int
		p, k int
		want []int
	}{
		{[]int{39, 1}, 7, 2, []int{-10, 1}},
		{[]int{39, 25, 24, 49}, 7, 2, []int{-10, -24, 24}},
		{[]int{-39, -25, -24, -49, 0}, 7, 2, []int{10, 24, -24}},
		{[]int{0, 1, 2, 3, 4, 5, 6, 7, 8}, 7, 1, []int{0, 1, 2, 3, -3, -2, -1, 0, 1}},
		{[]int{0, -1, -2, -3, -4, -5, -6, -7, -8}, 7, 1, []int{0, -1, -2, -3, 3, 2, 1, 0, -1}},
		{[]int{0, 1, 2, 3, 4, 5, 6, 7, 8, 9}, 2, 2, []int{0, 1, 2, -1, 0, 1, 2, -1, 0, 1}},
		{[]int{-1, -2, -3, -4, -5}, 2, 2, []int{-1, 2, 1, 0, -1}},
		{[]int{1, 2}, 2, 1, []int{1}},
		{[]int{-1, 2, 3, 4, -5, -6, -8}, 2, 1, []int{1, 0, 1, 0, 1}},
		{[]int{1, 2, 3}, 3, 1, []int{1, -1}},
		{[]int{8, 9, 7, 24, 25, 512}, 2, 4, []int{8, -7, 7, 8, -7}},
		{[]int{1<<30 - 1, 1 << 30, 1 << 31, -1 << 30}, greatest, 1, []int{1<<30 - 1, -1<<30 + 1, 1, 1<<30 - 1}},
		{nil, 7, 2, nil},
		{[]int{}, 2, 1000, nil},
		{[]int{0, 0}, 7, 2, nil},
		{[]int{49, -49, 0, 98}, 7, 2, nil},
		{[]int{0, 49, 1, 49, -49}, 7, 2, []int{0, 0, 1}},
		{[]int{7}, 7, 1, nil},
		{[]int{7}, 7, 2, []int{7}},
	} {
		expectNear(t, of(x.f...), x.p, x.k, bigs(x.want...))
	}
}

func TestL2Errors(t *testing.T) {
	for _, f := range [][]api.Int{nil, of(0), of(39, 1), of(-1, 2, 0)} {
		for _, p := range noPrimes() {
			for _, k := range append(noPowers(), 1, 2, 1000) {
				if g, e := lift.Near(f, p, k); len(g) != 0 || e != api.ErrPrime {
					t.Errorf("L2: Near of %v, %d, %d: %v, %d", f, p, k, g, e)
				}
			}
		}
		for _, p := range primes() {
			for _, k := range noPowers() {
				if g, e := lift.Near(f, p, k); len(g) != 0 || e != api.ErrArg {
					t.Errorf("L2: Near of %v, %d, %d: %v, %d", f, p, k, g, e)
				}
			}
		}
	}
}

// At, below and above the half of each power, and multiples of the power away.
func TestL2Halves(t *testing.T) {
	for _, p := range primes() {
		s := noise(p + 5)
		for _, k := range []int{1, 2, 3, 4, 17, 31, 32, 64, 500, 999, 1000} {
			q := power(p, k)
			half := new(big.Int).Rsh(q, 1)
			var f, want []*big.Int
			for d := -2; d <= 2; d++ {
				near := new(big.Int).Add(half, big.NewInt(int64(d)))
				near.Mod(near, q)
				for away := -3; away <= 3; away++ {
					multiple := new(big.Int).Mul(q, big.NewInt(int64(away)))
					f = append(f, multiple.Add(multiple, near))
				}
				if near.Cmp(half) > 0 {
					near = new(big.Int).Sub(near, q)
				}
				want = append(want, near, near, near, near, near, near, near)
			}
			f, want = append(f, big.NewInt(1)), append(want, big.NewInt(1))
			for range s.below(4) {
				f = append(f, new(big.Int).Mul(q, big.NewInt(int64(s.below(5)-2))))
			}
			expectNear(t, s.loose(f), p, k, want)
		}
	}
}

// What is near comes back, whatever multiples are added.
func TestL2Samples(t *testing.T) {
	for _, p := range primes() {
		s := noise(p + 6)
		for k := 1; k < 40; k++ {
			q := power(p, k)
			half := new(big.Int).Rsh(q, 1)
			least := new(big.Int).Sub(new(big.Int).Sub(half, q), big.NewInt(-1))
			want := s.monic(k%7, q) // the last coefficient is 1, and so stays
			for i := range len(want) - 1 {
				want[i].Add(want[i], least)
			}
			expectNear(t, s.loose(s.change(want, q)), p, k, want)
		}
	}
}
