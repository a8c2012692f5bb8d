package lift_test

import (
	"math/big"
	"testing"

	"primrose/api"
	"primrose/modular"
)

func TestL1Examples(t *testing.T) {
	for _, x := range []struct {
		f    []int
		l    [][]int
		p, k int
		want [][]int
	}{
		{[]int{-2, 0, 1}, [][]int{{3, 1}, {4, 1}}, 7, 2, [][]int{{10, 1}, {39, 1}}},
		{[]int{-2, 0, 1}, [][]int{{4, 1}, {3, 1}}, 7, 2, [][]int{{39, 1}, {10, 1}}},
		{[]int{-2, 0, 1}, [][]int{{3, 1}, {4, 1}}, 7, 1, [][]int{{3, 1}, {4, 1}}},
		{[]int{-2, 0, 1}, [][]int{{3, 1}, {4, 1}}, 7, 3, [][]int{{108, 1}, {235, 1}}},
		{[]int{-2, 0, 1, 0, 0}, [][]int{{-4, 8, 7, 0}, {4 - 14, 1 - 49}}, 7, 3, [][]int{{108, 1}, {235, 1}}},
		{[]int{47, -49, 1}, [][]int{{3, 1}, {4, 1}}, 7, 2, [][]int{{10, 1}, {39, 1}}},
		{[]int{6, 5, 1}, [][]int{{0, 1}, {1, 1}}, 2, 5, [][]int{{2, 1}, {3, 1}}},
		{[]int{6, -5, 1}, [][]int{{0, 1}, {1, 1}}, 2, 5, [][]int{{30, 1}, {29, 1}}},
		{[]int{6, 11, 6, 1}, [][]int{{3, 1}, {1, 1}, {2, 1}}, 5, 4, [][]int{{3, 1}, {1, 1}, {2, 1}}},
		{[]int{-6, 11, -6, 1}, [][]int{{4, 1}, {2, 1}, {3, 1}}, 5, 2, [][]int{{24, 1}, {22, 1}, {23, 1}}},
		// x^4 + 4 by its factors x^2 - 2*x + 2 and x^2 + 2*x + 2.
		{[]int{4, 0, 0, 0, 1}, [][]int{{2, 1, 1}, {2, 2, 1}}, 3, 3, [][]int{{2, 25, 1}, {2, 2, 1}}},
		// Elements may have more factors, also one more than once.
		{[]int{0, 0, 9, 6, 1}, [][]int{{0, 0, 1}, {1, 2, 1}}, 2, 4, [][]int{{0, 0, 1}, {9, 6, 1}}},
		{[]int{0, 0, 9, 6, 1}, [][]int{{1, 0, 1}, {0, 0, 1}}, 2, 4, [][]int{{9, 6, 1}, {0, 0, 1}}},
		{[]int{9, 6, 1}, [][]int{{0, 0, 1}}, 3, 1, [][]int{{0, 0, 1}}},
		// One alone is f.
		{[]int{-2, 0, 1}, [][]int{{5, 0, 1}}, 7, 3, [][]int{{341, 0, 1}}},
		{[]int{9, -6, 1}, [][]int{{0, 0, 1}}, 3, 3, [][]int{{9, 21, 1}}},
		{[]int{-1, 1}, [][]int{{1, 1}}, 2, 10, [][]int{{1023, 1}}},
		{[]int{0, 1, 0}, [][]int{{0, 1}}, 2, 10, [][]int{{0, 1}}},
		// None at all.
		{[]int{1}, nil, 7, 3, nil},
		{[]int{1, 0, 0}, [][]int{}, 2, 1000, nil},
	} {
		var want [][]*big.Int
		for _, g := range x.want {
			want = append(want, bigs(g...))
		}
		expectFactors(t, of(x.f...), x.l, x.p, x.k, want)
	}
}

func TestL1ErrorsOfPrimeAndPower(t *testing.T) {
	f, l := of(-2, 0, 1), [][]int{{3, 1}, {4, 1}}
	for _, p := range noPrimes() {
		for _, k := range append(noPowers(), 1, 2, 1000) {
			expectError(t, f, l, p, k, api.ErrPrime)
			expectError(t, nil, nil, p, k, api.ErrPrime)
			expectError(t, of(1), nil, p, k, api.ErrPrime)
			expectError(t, of(2), [][]int{nil}, p, k, api.ErrPrime)
		}
	}
	for _, p := range primes() {
		for _, k := range noPowers() {
			expectError(t, f, l, p, k, api.ErrArg)
			expectError(t, nil, nil, p, k, api.ErrArg)
			expectError(t, of(1), nil, p, k, api.ErrArg)
			expectError(t, of(2), [][]int{nil}, p, k, api.ErrArg)
		}
	}
}

// Nothing can be lifted to a factor of 0, or of what isn't monic.
func TestL1ErrorsOfThePolynomial(t *testing.T) {
	zero := api.Int{Neg: true, Mag: []uint32{0, 0}}
	for _, f := range [][]api.Int{
		nil, {}, of(0), of(0, 0, 0), {zero}, {zero, zero}, of(7), of(49, 0), of(2), of(-1), of(8), of(-6), of(8, 0), {{Mag: []uint32{1, 1}}},
	} {
		expectError(t, f, nil, 7, 2, api.ErrLift)
		expectError(t, f, [][]int{}, 7, 2, api.ErrLift)
		expectError(t, f, [][]int{{1}}, 7, 2, api.ErrLift)
		expectError(t, f, [][]int{{0}}, 7, 2, api.ErrLift)
		expectError(t, f, [][]int{{0, 1}}, 7, 2, api.ErrLift)
	}
	l := [][]int{{3, 1}, {4, 1}}
	for _, f := range [][]int{
		{-2, 0, 2}, {-2, 0, -1}, {2, 0, -1}, {-2, 0, 0}, {-2, 0, 7}, {-4, 0, 2},
		{-2, 0, 8}, {-2, 0, 50}, {-2, 0, -6}, {-2, 0, -48}, {-2, 0, 1, 7}, {-2, 0, 1, 49, 0}, {-2, 0, 1, 343}, {-2, 0, 1, -7},
		{0, -2, 0, 1}, {-2, 1}, {1}, {0, 0, 0},
	} {
		for _, k := range []int{1, 2, 3, 1000} {
			expectError(t, of(f...), l, 7, k, api.ErrLift)
		}
	}
	great := append(of(-2, 0), api.Int{Mag: []uint32{1, 0, 0}}, zero, zero)
	expectFactors(t, great, l, 7, 2, [][]*big.Int{bigs(10, 1), bigs(39, 1)})
	great[2] = api.Int{Mag: []uint32{1, 0, 1}}
	expectError(t, great, l, 7, 2, api.ErrLift)
	great[2] = api.Int{Neg: true, Mag: []uint32{1, 0, 0}}
	expectError(t, great, l, 7, 2, api.ErrLift)
}

func TestL1ErrorsOfTheFactors(t *testing.T) {
	for _, x := range []struct {
		f    []int
		l    [][]int
		p    int
		want api.Errno
	}{
		// What isn't monic, although the product is.
		{[]int{-2, 0, 1}, [][]int{{6, 2}, {2, 4}}, 7, api.ErrLift},
		{[]int{-2, 0, 1}, [][]int{{4, 6}, {3, 6}}, 7, api.ErrLift},
		{[]int{-2, 0, 1}, [][]int{{3, 1}, {4, 1, 1}}, 7, api.ErrLift},
		{[]int{-2, 0, 1}, [][]int{{3, 1}, {4, 1, 2}}, 7, api.ErrLift},
		{[]int{-2, 0, 1}, [][]int{{3, 1}, {4, 1, 7, 1}}, 7, api.ErrLift},
		{[]int{-2, 0, 1}, [][]int{{3, 8}, {4, -6, 7, -7}}, 7, api.OK},
		// Constants.
		{[]int{-2, 0, 1}, [][]int{{3, 1}, {4, 1}, {1}}, 7, api.ErrLift},
		{[]int{-2, 0, 1}, [][]int{{3, 1}, {1}, {4, 1}}, 7, api.ErrLift},
		{[]int{-2, 0, 1}, [][]int{{8, 7}, {3, 1}, {4, 1}}, 7, api.ErrLift},
		{[]int{-2, 0, 1}, [][]int{{3, 1}, {4, 1}, {}}, 7, api.ErrLift},
		{[]int{-2, 0, 1}, [][]int{nil, {3, 1}, {4, 1}}, 7, api.ErrLift},
		{[]int{-2, 0, 1}, [][]int{{3, 1}, {4, 1}, {7, -7, 0}}, 7, api.ErrLift},
		{[]int{1}, [][]int{{1}}, 7, api.ErrLift},
		{[]int{1}, [][]int{{}}, 7, api.ErrLift},
		{[]int{1}, [][]int{nil, nil}, 7, api.ErrLift},
		{[]int{1}, [][]int{{8, 7}}, 7, api.ErrLift},
		// Common factors, of neighbours and of others.
		{[]int{1, 2, 1}, [][]int{{1, 1}, {1, 1}}, 7, api.ErrLift},
		{[]int{1, 2, 1}, [][]int{{1, 1}, {8, -6}}, 7, api.ErrLift},
		{[]int{8, 9, 1}, [][]int{{1, 1}, {8, 1}}, 7, api.ErrLift},
		{[]int{8, 9, 1}, [][]int{{1, 1}, {8, 1}}, 5, api.OK},
		{[]int{2, 5, 4, 1}, [][]int{{1, 1}, {2, 1}, {1, 1}}, 7, api.ErrLift},
		{[]int{2, 5, 4, 1}, [][]int{{2, 1}, {1, 1}, {1, 1}}, 7, api.ErrLift},
		{[]int{2, 5, 4, 1}, [][]int{{2, 3, 1}, {1, 1}}, 7, api.ErrLift},
		{[]int{2, 5, 4, 1}, [][]int{{1, 1}, {2, 3, 1}}, 7, api.ErrLift},
		{[]int{2, 5, 4, 1}, [][]int{{1, 2, 1}, {2, 1}}, 7, api.OK},
		{[]int{2, 5, 4, 1}, [][]int{{2, 5, 4, 1}}, 7, api.OK},
		{[]int{0, 0, 1}, [][]int{{0, 1}, {0, 1}}, 2, api.ErrLift},
		// Products that are not f.
		{[]int{-3, 0, 1}, [][]int{{3, 1}, {4, 1}}, 7, api.ErrLift},
		{[]int{-2, 1, 1}, [][]int{{3, 1}, {4, 1}}, 7, api.ErrLift},
		{[]int{2, 2, 1}, [][]int{{1, 1}, {1, 1}}, 7, api.ErrLift},
		{[]int{-2, 0, 1}, [][]int{{3, 1}}, 7, api.ErrLift},
		{[]int{-2, 0, 1}, [][]int{{3, 1}, {4, 1}, {5, 1}}, 7, api.ErrLift},
		{[]int{-2, 0, 1}, [][]int{{0, 0, 0, 1}}, 7, api.ErrLift},
		{[]int{-2, 0, 1}, [][]int{{0, 0, 1}}, 7, api.ErrLift},
		{[]int{-2, 0, 1}, nil, 7, api.ErrLift},
		{[]int{-2, 0, 1}, [][]int{}, 7, api.ErrLift},
		{[]int{1, 1}, nil, 2, api.ErrLift},
		{[]int{1}, [][]int{{1, 1}}, 7, api.ErrLift},
		{[]int{1}, [][]int{{0, 1}}, 7, api.ErrLift},
	} {
		for _, k := range []int{1, 2, 5, 1000} {
			if x.want != api.OK {
				expectError(t, of(x.f...), x.l, x.p, k, x.want)
			} else {
				expectDefinition(t, bigs(x.f...), x.l, x.p, k)
			}
		}
	}
}

// What has been multiplied comes back.
func TestL1Products(t *testing.T) {
	for _, p := range primes() {
		s := noise(p + 1)
		for k := 1; k <= 33; k++ {
			q := power(p, k)
			l := s.factors(1+k%6, 1+k%4, p, q)
			f := s.loose(s.change(product(l), q))
			expectFactors(t, f, s.disguiseAll(reducedAll(l, p), p), p, k, l)
		}
	}
}

// Short ones beside long ones, in front and behind.
func TestL1Lengths(t *testing.T) {
	for _, p := range []int{2, 3, 101, greatest} {
		s := noise(p + 2)
		for degree := range 12 {
			q := power(p, 7)
			l := append(s.factors(1, 1, p, q), s.monic(1+degree, q))
			f := product(l)
			if len(modular.Gcd(reduced(l[0], p), reduced(l[1], p), p)) > 1 {
				expectError(t, fromBig(f), reducedAll(l, p), p, 7, api.ErrLift)
				continue
			}
			expectFactors(t, s.loose(f), reducedAll(l, p), p, 7, l)
			l[0], l[1] = l[1], l[0]
			expectFactors(t, s.loose(f), reducedAll(l, p), p, 7, l)
		}
	}
}

func TestL1GreatPowers(t *testing.T) {
	for _, p := range []int{2, 3, 65537, greatest} {
		for _, k := range []int{64, 100, 127, 128, 129, 255, 999, 1000} {
			s, q := noise(p+k), power(p, k)
			l := s.factors(3, 2, p, q)
			expectFactors(t, fromBig(s.change(product(l), q)), reducedAll(l, p), p, k, l)
		}
	}
}

func TestL1ManyFactors(t *testing.T) {
	for _, p := range []int{101, 65537, greatest} {
		s, q := noise(p+3), power(p, 9)
		var l [][]*big.Int
		for i := range 60 {
			root := s.great(power(p, 8))
			root.Mul(root, big.NewInt(int64(p)))
			l = append(l, []*big.Int{root.Add(root, big.NewInt(int64(i*37%101))), big.NewInt(1)})
		}
		expectFactors(t, fromBig(s.change(product(l), q)), s.disguiseAll(reducedAll(l, p), p), p, 9, l)
	}
}

// Modulo a small prime all polynomials of a small degree are factors of some f.
func TestL1SmallPolynomials(t *testing.T) {
	for _, p := range []int{2, 3, 5} {
		for a := range p * p {
			for b := range p * p {
				g, h := []int{a % p, a / p, 1}, []int{b % p, b / p, 1}
				f := mul(bigs(g...), bigs(h...))
				f[0].Add(f[0], big.NewInt(int64(p*(a+b))))
				f[3].Sub(f[3], big.NewInt(int64(p*a*b)))
				for k := 1; k < 6; k++ {
					if len(modular.Gcd(g, h, p)) > 1 {
						expectError(t, fromBig(f), [][]int{g, h}, p, k, api.ErrLift)
					} else {
						expectDefinition(t, f, [][]int{g, h}, p, k)
					}
				}
			}
		}
	}
}

// A product that is wrong at one place can't be lifted, nor one without a factor,
// with one twice, or with one that isn't monic.
func TestL1Spoiled(t *testing.T) {
	for _, p := range primes() {
		s := noise(p + 4)
		for n := range 12 {
			q := power(p, 4)
			l := s.factors(1+n%4, 3, p, q)
			f, plain := product(l), reducedAll(l, p)
			expectFactors(t, fromBig(f), plain, p, 4, l)
			for i := range len(f) - 1 {
				wrong := s.change(f, q)
				wrong[i].Add(wrong[i], big.NewInt(int64(1+s.below(p-1))))
				expectError(t, fromBig(wrong), plain, p, 4, api.ErrLift)
			}
			i := s.below(len(l))
			expectError(t, fromBig(f), append(plain[:i:i], plain[i+1:]...), p, 4, api.ErrLift)
			expectError(t, fromBig(mul(f, l[i])), append(plain[:i+1:i+1], plain[i:]...), p, 4, api.ErrLift)
			expectError(t, fromBig(mul(f, l[i])), append([][]int{plain[i]}, plain...), p, 4, api.ErrLift)
			if p > 2 {
				plain[i] = modular.Scale(plain[i], 2, p)
				expectError(t, fromBig(f), plain, p, 4, api.ErrLift)
			}
		}
	}
}
