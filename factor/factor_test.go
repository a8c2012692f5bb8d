package factor_test

import (
	"math/big"
	"testing"

	"primrose/api"
	"primrose/dense"
	"primrose/factor"
	"primrose/fraction"
	"primrose/prime"
)

// one is a factor with small coefficients.
func one(n int, f ...int) known {
	return known{bigs(f...), n}
}

func TestM2Examples(t *testing.T) {
	for _, x := range []struct {
		f       []int
		content int
		want    []known
	}{
		{[]int{-2, 0, 2}, 2, []known{one(1, -1, 1), one(1, 1, 1)}},
		{[]int{4, 0, 0, 0, 1}, 1, []known{one(1, 2, -2, 1), one(1, 2, 2, 1)}},
		{[]int{1, 0, 0, 0, 1}, 1, []known{one(1, 1, 0, 0, 0, 1)}},
		{[]int{-12}, -12, nil},
		{[]int{1, 4, 4}, 1, []known{one(2, 1, 2)}},
		// Constants.
		{[]int{1}, 1, nil},
		{[]int{-1}, -1, nil},
		{[]int{7, 0, 0}, 7, nil},
		{[]int{-1 << 63}, -1 << 63, nil},
		// Of degree 1.
		{[]int{0, 1}, 1, []known{one(1, 0, 1)}},
		{[]int{0, -1}, -1, []known{one(1, 0, 1)}},
		{[]int{0, -6, 0}, -6, []known{one(1, 0, 1)}},
		{[]int{5, 1}, 1, []known{one(1, 5, 1)}},
		{[]int{5, -1}, -1, []known{one(1, -5, 1)}},
		{[]int{3, 2}, 1, []known{one(1, 3, 2)}},
		{[]int{-9, -6}, -3, []known{one(1, 3, 2)}},
		{[]int{10, 25, 0}, 5, []known{one(1, 2, 5)}},
		// Powers of the variable, alone and beside others.
		{[]int{0, 0, -3}, -3, []known{one(2, 0, 1)}},
		{[]int{0, 0, 0, 0, 0, 1}, 1, []known{one(5, 0, 1)}},
		{[]int{0, 0, -1, 0, 1}, 1, []known{one(1, -1, 1), one(2, 0, 1), one(1, 1, 1)}},
		{[]int{0, 6, 0, 2, 0}, 2, []known{one(1, 0, 1), one(1, 3, 0, 1)}},
		// Of degree 2 and 3.
		{[]int{6, -5, 1, 0}, 1, []known{one(1, -3, 1), one(1, -2, 1)}},
		{[]int{1, 5, 6}, 1, []known{one(1, 1, 2), one(1, 1, 3)}},
		{[]int{-1, 1, 6}, 1, []known{one(1, 1, 2), one(1, -1, 3)}},
		{[]int{-2, 0, 1}, 1, []known{one(1, -2, 0, 1)}},
		{[]int{-8, 0, 2}, 2, []known{one(1, -2, 1), one(1, 2, 1)}},
		{[]int{1, 0, -4}, -1, []known{one(1, -1, 2), one(1, 1, 2)}},
		{[]int{1, 1, 1}, 1, []known{one(1, 1, 1, 1)}},
		{[]int{-2, 0, 0, 1}, 1, []known{one(1, -2, 0, 0, 1)}},
		{[]int{-8, 0, 0, 27}, 1, []known{one(1, -2, 3), one(1, 4, 6, 9)}},
		// The prime of f may divide its last coefficient.
		{[]int{1, 1, 2}, 1, []known{one(1, 1, 1, 2)}},
		{[]int{-1, 1, 2}, 1, []known{one(1, 1, 1), one(1, -1, 2)}},
		{[]int{3, 5, 4, 4}, 1, []known{one(1, 3, 5, 4, 4)}},
		{[]int{-3, 7, -6, 8}, 1, []known{one(1, -1, 2), one(1, 3, -1, 4)}},
		// Several lifted factors have to be put together, or all of them.
		{[]int{-1, 0, 0, 0, 0, 0, 1}, 1, []known{one(1, -1, 1), one(1, 1, 1), one(1, 1, -1, 1), one(1, 1, 1, 1)}},
		{[]int{1, 0, -10, 0, 1}, 1, []known{one(1, 1, 0, -10, 0, 1)}},
		{[]int{1, 0, 0, 0, 0, 0, 0, 0, 1}, 1, []known{one(1, 1, 0, 0, 0, 0, 0, 0, 0, 1)}},
		{[]int{1, 0, 1, 0, 1}, 1, []known{one(1, 1, -1, 1), one(1, 1, 1, 1)}},
		{[]int{1, 1, 0, 0, 0, 1}, 1, []known{one(1, 1, 1, 1), one(1, 1, 0, -1, 1)}},
		{[]int{64, 0, 0, 0, 0, 0, 0, 0, 0, 0, 0, 0, 1}, 1, []known{
			one(1, 2, -2, 1), one(1, 2, 2, 1), one(1, 4, -4, 2, -2, 1), one(1, 4, 4, 2, 2, 1),
		}},
		// Multiplicities stand beside the order.
		{[]int{9, 0, 6, 0, 1}, 1, []known{one(2, 3, 0, 1)}},
		{[]int{1, -1, -1, 1}, 1, []known{one(2, -1, 1), one(1, 1, 1)}},
		{[]int{1, 1, -1, -1}, -1, []known{one(1, -1, 1), one(2, 1, 1)}},
		{[]int{0, 0, 8, 0, 8, 0, 2}, 2, []known{one(2, 0, 1), one(2, 2, 0, 1)}},
	} {
		expectFactors(t, of(x.f...), big.NewInt(int64(x.content)), x.want)
		f := append(of(x.f...), api.Int{Neg: true}, api.Int{Mag: []uint32{0}})
		expectFactors(t, f, big.NewInt(int64(x.content)), x.want)
	}
}

func TestM2Zero(t *testing.T) {
	for _, f := range zeros() {
		expectError(t, f, api.ErrZero)
	}
}

func TestM2Constants(t *testing.T) {
	s := noise(3)
	for digits := range 200 {
		for _, c := range []*big.Int{power2(30*digits, 0), s.great(30*digits + 1)} {
			if c.Sign() != 0 {
				expectFactors(t, s.loose([]*big.Int{c}), c, nil)
				c = new(big.Int).Neg(c)
				expectFactors(t, s.loose([]*big.Int{c}), c, nil)
			}
		}
	}
}

// factorsByTrial finds the factors of a primitive polynomial of degree 5 or less
// by trying all of degree 1 and 2 that may divide it.
func factorsByTrial(f []*big.Int) []known {
	var l []known
	bound, zero := 0, f[0].Sign() == 0
	for _, c := range f {
		bound += 2 * int(new(big.Int).Abs(c).Int64()) // twice the product of some roots
	}
	if zero {
		q, _, _ := quotient(f, bigs(0, 1))
		return append(factorsByTrial(q), one(1, 0, 1))
	}
	first, last := int(new(big.Int).Abs(f[0]).Int64()), int(f[len(f)-1].Int64())
	for a := 1; a <= last; a++ {
		for c := -first; c <= first; c++ {
			if last%a != 0 || c == 0 || first%c != 0 || len(f) < 3 {
				continue
			}
			if q, _, ok := quotient(f, bigs(c, a)); ok {
				return append(factorsByTrial(q), one(1, c, a))
			}
		}
	}
	for a := 1; a <= last; a++ {
		for c := -first; c <= first; c++ {
			for b := -bound; b <= bound; b++ {
				if last%a != 0 || c == 0 || first%c != 0 || len(f) < 5 {
					break
				}
				if q, _, ok := quotient(f, bigs(c, b, a)); ok {
					return append(factorsByTrial(q), one(1, c, b, a))
				}
			}
		}
	}
	if len(f) > 1 {
		l = append(l, known{f, 1})
	}
	return l
}

func expectByTrial(t *testing.T, f []*big.Int) {
	t.Helper()
	if len(trimmed(f)) > 0 {
		expectFactors(t, fromBig(f), content(f), together(factorsByTrial(primitive(f))))
	}
}

// All polynomials of a small degree with small coefficients.
func TestM2SmallPolynomials(t *testing.T) {
	for n := range 11 * 11 * 11 {
		expectByTrial(t, bigs(n%11-5, n/11%11-5, n/121-5))
	}
	for n := range 7 * 7 * 7 * 7 {
		expectByTrial(t, bigs(n%7-3, n/7%7-3, n/49%7-3, n/343-3))
	}
	for n := range 3 * 3 * 3 * 3 * 3 * 3 {
		expectByTrial(t, bigs(n%3-1, n/3%3-1, n/9%3-1, n/27%3-1, n/81%3-1, n/243-1))
	}
	s := noise(4)
	for range 200 {
		expectByTrial(t, bigs(s.size(9), s.size(9), s.size(9), s.size(9), 1+s.below(6)))
		expectByTrial(t, mul(bigs(s.size(4), s.size(4), 1+s.below(3)), bigs(s.size(4), s.size(4), s.size(4), 1)))
	}
}

// Products of polynomials that are irreducible by Eisenstein's criterion.
func TestM2Products(t *testing.T) {
	s, done := noise(5), 0
	for n := range 300 {
		var l []known
		for range 1 + n%4 {
			q := []int{2, 3, 5, 7}[s.below(4)]
			l = append(l, known{s.eisenstein(1+s.below(5), q, s.below(1+n/10)), 1 + s.below(3)*s.below(2)})
		}
		c := s.great(1 + n)
		if c.Sign() != 0 && expectProduct(t, &s, c, l) {
			done++
		}
	}
	if done < 150 {
		t.Errorf("M2: only %d products were not too large", done)
	}
}

// Products of factors of degree 1, which are many.
func TestM2LinearFactors(t *testing.T) {
	s, done := noise(6), 0
	for n := range 200 {
		var l []known
		for range 1 + n%12 {
			l = append(l, known{s.linear(2 + n), 1})
		}
		for range n % 3 {
			l = append(l, l[s.below(len(l))], known{bigs(0, 1), 1 + s.below(4)})
		}
		if expectProduct(t, &s, big.NewInt(int64(1+n)), l) {
			done++
		}
	}
	if done < 100 {
		t.Errorf("M2: only %d products were not too large", done)
	}
}

// The factors of each multiplicity are those of one of the Squares of layer 9.
func TestM2Squares(t *testing.T) {
	s := noise(12)
	for n := range 60 {
		var l []known
		for range 1 + n%5 {
			l = append(l, known{s.eisenstein(1+s.below(3), 2, 8), 1 + s.below(5)}, known{s.linear(9), 1 + s.below(2)})
		}
		l = together(l)
		f := fromBig(multiplied(big.NewInt(-2), l))
		if isOneTooLarge(l) {
			continue
		}
		var all []api.Rat
		for _, c := range f {
			all = append(all, api.Rat{Num: c, Den: []uint32{1}})
		}
		_, got, _ := factor.Factor(f)
		for i, square := range dense.Squares(all) {
			part := bigs(1)
			for _, x := range got {
				if x.N == i+1 {
					part = mul(part, toBig(x.P))
				}
			}
			for k, c := range fromBig(part) {
				last := fromBig(part[len(part)-1:])[0].Mag
				if len(part) != len(square) || fraction.Cmp(square[k], api.Rat{Num: c, Den: last}) != 0 {
					t.Fatalf("M2: Factor of %v: %s, but its Squares are %v", toBig(f), text(got), dense.Squares(all))
				}
			}
		}
	}
}

// Great multiplicities, and great coefficients beside them.
func TestM2Multiplicities(t *testing.T) {
	s := noise(13)
	for n := 1; n < 7; n++ {
		l := []known{{s.eisenstein(2, 3, 40*n), 1 + 2*n}, {s.linear(5 + 1000*n), 3 * n * n}, {bigs(0, 1), 20 * n}, {s.eisenstein(3, 2, 5), 3}}
		if !expectProduct(t, &s, s.great(50), l) {
			t.Errorf("M2: %v is too large", l)
		}
	}
	expectProduct(t, &s, big.NewInt(1), []known{{bigs(0, 1), 2000}})
	expectProduct(t, &s, big.NewInt(1), []known{{bigs(-1, 1), 200}, {bigs(1, 1), 200}})
}

// Modulo a prime, other factors may be the same, and last coefficients may be 0.
func TestM2MultiplicitiesModuloPrimes(t *testing.T) {
	s := noise(19)
	for _, first := range []int{1, 1 << 8, 1 << 16, 1 << 20, 1 << 24, 1<<31 - 1000} {
		p := first
		for range 12 {
			p = prime.After(p)
			expectProduct(t, &s, big.NewInt(1), []known{
				{bigs(-1, 1), 2}, {bigs(-1-p, 1), 1}, {[]*big.Int{power2(70, 1), big.NewInt(3)}, 2},
			})
			expectProduct(t, &s, big.NewInt(1), []known{
				{bigs(-1, p), 2}, {bigs(2, 1), 1}, {[]*big.Int{power2(70, 1), big.NewInt(3)}, 3},
			})
			expectProduct(t, &s, big.NewInt(int64(p)), []known{{bigs(p, p+1), 3}, {bigs(1, 1), 1}, {bigs(1+p, 1), 1}})
			// Modulo this prime and the next one, both squares are that of x + 3.
			expectProduct(t, &s, big.NewInt(1), []known{{bigs(3+p*prime.After(p), 1), 2}, {bigs(5, 1), 1}})
			expectProduct(t, &s, big.NewInt(1), []known{{bigs(3-p*prime.After(p), 1), 2}})
		}
	}
}

// Coefficients of several limbs, also at both sides of a sign.
func TestM2GreatCoefficients(t *testing.T) {
	a := new(big.Int).Add(power2(100, 0), big.NewInt(7))
	b := new(big.Int).Neg(power2(90, 1))
	one, minus := big.NewInt(1), big.NewInt(-1)
	expectFactors(t, fromBig(mul([]*big.Int{a, one}, []*big.Int{b, one})), one, []known{
		{[]*big.Int{b, one}, 1}, {[]*big.Int{a, one}, 1},
	})
	expectFactors(t, fromBig(mul([]*big.Int{one, a}, []*big.Int{minus, a})), one, []known{
		{[]*big.Int{minus, a}, 1}, {[]*big.Int{one, a}, 1},
	})
	expectFactors(t, fromBig(mul([]*big.Int{a, b}, []*big.Int{b, a})), minus, []known{
		{[]*big.Int{new(big.Int).Neg(a), new(big.Int).Neg(b)}, 1}, {[]*big.Int{b, a}, 1},
	})
	square := mul([]*big.Int{a, one}, []*big.Int{a, one})
	expectFactors(t, fromBig(scaled(square, b)), b, []known{{[]*big.Int{a, one}, 2}})
	// x^2 - a^2, and x^2 - a^2 + 1
	expectFactors(t, fromBig(mul([]*big.Int{a, one}, []*big.Int{new(big.Int).Neg(a), one})), one, []known{
		{[]*big.Int{new(big.Int).Neg(a), one}, 1}, {[]*big.Int{a, one}, 1},
	})
	less := new(big.Int).Sub(big.NewInt(1), new(big.Int).Mul(a, a))
	expectFactors(t, fromBig([]*big.Int{less, new(big.Int), one}), one, []known{{[]*big.Int{less, new(big.Int), one}, 1}})
}

// x^n - 1 is the product of the cyclotomic polynomials of its divisors, many of
// which have factors modulo each prime.
func TestM2RootsOfOne(t *testing.T) {
	s, done := noise(7), 0
	for n := 1; n <= 60; n++ {
		var l []known
		for d := 1; d <= n; d++ {
			if n%d == 0 {
				l = append(l, known{cyclotomic(d), 1})
			}
		}
		if expectProduct(t, &s, big.NewInt(1), l) {
			done++
		}
		f := cyclotomic(n)
		expectProduct(t, &s, big.NewInt(-3), []known{{f, 2}})
		expectProduct(t, &s, big.NewInt(1), []known{{f, 1}, {cyclotomic(2*n + 1), 1}, {bigs(0, 1), 3}})
	}
	if done < 40 {
		t.Errorf("M2: only %d products were not too large", done)
	}
}

// Polynomials of which all lifted factors have to be put together, alone, and with
// others, of which as many or more factors have to be.
func TestM2SumsOfRoots(t *testing.T) {
	s := noise(8)
	minus := big.NewInt(-1)
	for _, x := range []struct {
		l    []known
		long bool
	}{
		{[]known{{roots(2), 1}}, false},
		{[]known{{roots(2, 3), 1}}, false},
		{[]known{{roots(2, 3, 5), 1}}, false},
		{[]known{{roots(2, 3, 5, 7), 1}}, false},
		{[]known{{roots(2, 3, 5, 7, 11), 1}}, true},
		{[]known{{roots(2, 3), 1}, {roots(5, 7), 1}, {bigs(3, 0, 0, 2), 1}}, false},
		{[]known{{roots(2, 3, 5), 1}, {roots(3, 5, 7), 1}}, false},
		{[]known{{roots(2, 3, 5), 1}, {roots(7, 11, 13), 1}, {roots(17, 19, 23), 1}}, false},
		{[]known{{roots(2, 3, 5), 1}, {roots(7, 11, 13), 2}, {roots(3, 5), 2}, {roots(11), 3}}, false},
		{[]known{{roots(2, 3, 5, 7), 1}, {bigs(1, 2), 1}, {bigs(-5, 1), 1}}, false},
	} {
		if expectProduct(t, &s, minus, x.l) == x.long {
			t.Errorf("M2: %v: too large: %t", x.l, !x.long)
		}
	}
}

// The order goes by degrees, then by the coefficients from the highest one down.
func TestM2Order(t *testing.T) {
	great := func(n int) *big.Int { return power2(70, n) }
	minus := func(a *big.Int) *big.Int { return new(big.Int).Neg(a) }
	one, two := big.NewInt(1), big.NewInt(2)
	want := []known{
		{[]*big.Int{minus(great(3)), one}, 1},
		{[]*big.Int{minus(great(1)), one}, 2},
		{[]*big.Int{minus(one), one}, 3},
		{[]*big.Int{one, one}, 1},
		{[]*big.Int{great(1), one}, 2},
		{[]*big.Int{minus(great(1)), two}, 1},
		{[]*big.Int{one, great(1)}, 2},
		{[]*big.Int{great(2), minus(two), one}, 1},
		{[]*big.Int{minus(great(2)), new(big.Int), one}, 3},
		{[]*big.Int{two, new(big.Int), one}, 2},
		{[]*big.Int{one, one, one}, 1},
		{[]*big.Int{two, minus(one), two}, 2},
		{bigs(2, 0, -2, 1), 1},
		{bigs(-2, 0, 0, 1), 1},
	}
	for i := range len(want) - 2 {
		l := want[i : i+3]
		expectFactors(t, fromBig(multiplied(one, l)), one, l)
	}
}

// A call's answer does not depend on those before it.
func TestM2NoState(t *testing.T) {
	s := noise(9)
	f := fromBig(mul(roots(2, 3, 5), s.eisenstein(4, 3, 20)))
	_, first, _ := factor.Factor(f)
	for range 5 {
		factor.Factor(fromBig(s.eisenstein(6, 5, 30)))
		if _, l, _ := factor.Factor(f); text(l) != text(first) {
			t.Fatalf("M2: Factor of %v: %s, then %s", toBig(f), text(first), text(l))
		}
	}
}
