package factor_test

import (
	"math/big"
	"testing"

	"primrose/api"
	"primrose/factor"
	"primrose/prime"
	"primrose/split"
)

// expectLarge holds an answer for a square-free polynomial against the words.
func expectLarge(t *testing.T, f []*big.Int, isLarge bool) {
	t.Helper()
	if got := isTooLarge(primitive(f)); got != isLarge {
		p, k, n := measures(primitive(f))
		t.Fatalf("the example %.100v has the prime %d, the exponent %d and %d factors", f, p, k, n)
	}
	if isLarge {
		expectError(t, fromBig(f), api.ErrLong)
		return
	}
	c, l, e := factor.Factor(fromBig(f))
	all := toBig([]api.Int{c})
	for _, x := range l {
		all = mul(all, toBig(x.P))
	}
	if e != api.OK || !isSame(all, f) {
		t.Fatalf("M2: Factor of %.100v: %v, %s, %d", f, c, text(l), e)
	}
}

// steps makes the product of x - i for all i below n.
func steps(n int) []*big.Int {
	f := bigs(1)
	for i := range n {
		f = mul(f, bigs(-i, 1))
	}
	return f
}

func linearFactors(from, to int) []known {
	var l []known
	for i := to; i >= from; i-- {
		l = append(l, one(1, -i, 1))
	}
	return l
}

func TestM2TwelveAndThirteenFactors(t *testing.T) {
	for n := 1; n <= 20; n++ {
		expectLarge(t, steps(n), n > 12)
	}
	expectFactors(t, fromBig(steps(12)), big.NewInt(1), linearFactors(0, 11))
	// With other last coefficients, and contents.
	f := steps(11)
	expectLarge(t, mul(f, bigs(1, 2)), false)
	expectLarge(t, mul(f, bigs(-10, -20)), false)
	expectLarge(t, mul(f, bigs(3, 10, 7)), true)
	// Irreducible ones count too: half of them as many as the degree.
	expectLarge(t, roots(2, 3, 5, 7), false)
	expectLarge(t, roots(2, 3, 5, 7, 11), true)
	expectLarge(t, cyclotomic(105), false)
	expectLarge(t, cyclotomic(120), false)
	expectLarge(t, cyclotomic(240), true)
	for n := 1; n <= 130; n++ {
		f := make([]int, n+1)
		f[0], f[n] = -1, 1
		expectLarge(t, bigs(f...), isTooLarge(bigs(f...)))
	}
}

// The prime of x - a is 2, so 2^2 times 1 + |a| must be less than 2^1000.
func TestM2ExponentsOfLinear(t *testing.T) {
	for d := -4; d <= 2; d++ {
		a := power2(998, d)
		expectLarge(t, []*big.Int{a, big.NewInt(1)}, d >= -1)
		expectLarge(t, []*big.Int{new(big.Int).Neg(a), big.NewInt(1)}, d >= -1)
		// The monic form knows nothing of this last coefficient, nor of the content.
		expectLarge(t, []*big.Int{a, big.NewInt(65537)}, d >= -1)
		expectLarge(t, scaled([]*big.Int{a, big.NewInt(1)}, power2(3000, 1)), d >= -1)
	}
	expectLarge(t, []*big.Int{big.NewInt(5), power2(60000, 0)}, false)
	expectFactors(t, fromBig([]*big.Int{big.NewInt(5), power2(20000, 0)}), big.NewInt(1), []known{
		{[]*big.Int{big.NewInt(5), power2(20000, 0)}, 1},
	})
	expectLarge(t, []*big.Int{power2(20000, 0), big.NewInt(5)}, true)
	expectLarge(t, []*big.Int{new(big.Int), power2(20000, 0)}, false)
}

func TestM2Exponents(t *testing.T) {
	one := big.NewInt(1)
	for d := -9; d <= 3; d++ {
		// x^2 + x + a has the prime 2: 2^3 times 2 + |a| must be less than 2^1000.
		a := power2(997, d)
		expectLarge(t, []*big.Int{a, one, one}, d >= -2)
		// 2*x^2 + x + a: 1 + 1 + 2*|a|, and 2 is its prime too.
		expectLarge(t, []*big.Int{power2(996, d), one, big.NewInt(2)}, d >= -1)
		// -3*x^2 + x + a: the content is negative.
		expectLarge(t, []*big.Int{power2(995, d), one, big.NewInt(-3)}, false)
		expectLarge(t, []*big.Int{power2(996, d), one, big.NewInt(-3)}, true)
	}
	// x^2 - a has the prime 3 if a is a multiple of 3 plus 1 or 2.
	for d := range 9 {
		a := new(big.Int).Exp(big.NewInt(3), big.NewInt(1000), nil)
		a.Div(a, big.NewInt(8))
		a.Sub(a, big.NewInt(int64(d-4)))
		f := []*big.Int{new(big.Int).Neg(a), new(big.Int), one}
		if p, k, _ := measures(f); p == 3 && (k > 1000) != (d < 5) {
			t.Fatalf("the example %d has the exponent %d", d, k)
		}
		expectLarge(t, f, isTooLarge(f))
	}
	// What has factors.
	root := power2(499, 1)
	f := mul([]*big.Int{root, one}, []*big.Int{new(big.Int).Sub(one, root), one})
	for n := range 3 {
		f[0].Mul(f[0], big.NewInt(int64(1+n)))
		expectLarge(t, f, isTooLarge(f))
	}
	// The degree counts: these are irreducible modulo 2, and 2^(n+1) times 2 + |a|
	// must be less than 2^1000.
	for n, i := range map[int]int{2: 1, 3: 1, 4: 1, 5: 2, 6: 1, 7: 1, 9: 1, 15: 1, 60: 1, 127: 1} {
		f := make([]*big.Int, n+1)
		for i := range f {
			f[i] = new(big.Int)
		}
		f[i], f[n] = big.NewInt(-1), one
		for d := -7; d <= 3; d += 2 {
			f[0] = power2(999-n, d)
			expectLarge(t, f, d >= -1)
			f[0] = new(big.Int).Neg(f[0])
			expectLarge(t, f, d >= -1)
		}
	}
}

// A monic form may be so long that it can't be made, while f is short.
func TestM2LongMonicForms(t *testing.T) {
	f := make([]*big.Int, 15001)
	for i := range f {
		f[i] = new(big.Int)
	}
	for _, last := range []*big.Int{big.NewInt(1), big.NewInt(3), power2(900, 1), power2(90000, 1)} {
		for _, i := range []int{0, 1} {
			f[0], f[1], f[15000] = new(big.Int), new(big.Int), last
			f[i] = big.NewInt(1)
			expectError(t, fromBig(f), api.ErrLong)
			expectError(t, fromBig([]*big.Int{power2(5, 0), power2(20000, 0), power2(5, 0), last, power2(30000, 0)}), api.ErrLong)
		}
	}
	// But x times a polynomial with a great last coefficient is not too large.
	great := power2(17000, 1)
	expectFactors(t, fromBig([]*big.Int{new(big.Int), big.NewInt(1), great}), big.NewInt(1), []known{
		{bigs(0, 1), 1}, {[]*big.Int{big.NewInt(1), great}, 1},
	})
	expectLarge(t, []*big.Int{new(big.Int), big.NewInt(1), big.NewInt(1), great}, true)
	f[0], f[1] = big.NewInt(1), big.NewInt(1)
	f = append(f, make([]*big.Int, 5000)...)
	for i := 15001; i < len(f); i++ {
		f[i] = new(big.Int)
	}
	f[len(f)-1] = big.NewInt(1)
	expectError(t, fromBig(f), api.ErrLong)
}

// suitsNone makes a polynomial of degree 16 which has a root twice modulo each
// prime up to the last one; which root it is changes from prime to prime.
func suitsNone(last int) []*big.Int {
	f := mul(steps(8), steps(8))
	for root := range 8 {
		// A multiple of some primes, times the squares of x minus the other roots.
		others := bigs(1)
		for i := range 8 {
			if i != root {
				others = mul(others, mul(bigs(-i, 1), bigs(-i, 1)))
			}
		}
		c := big.NewInt(1)
		for i, p := 0, 2; p <= last; i, p = i+1, prime.After(p) {
			if i%8 == root {
				c.Mul(c, big.NewInt(int64(p)))
			}
		}
		for i, a := range others {
			f[i].Add(f[i], new(big.Int).Mul(a, c))
		}
	}
	return f
}

// isIrreducible reports whether the degrees of the factors modulo some primes tell
// that f, which is monic, has none itself.
func isIrreducible(f []*big.Int) bool {
	n := len(f) - 1
	possible := make([]bool, n)
	for i := range possible {
		possible[i] = i > 0
	}
	p := 1 << 20
	for range 30 {
		p = prime.After(p)
		sums := make([]bool, n+1)
		sums[0] = true
		l, _ := split.Factor(residues(f, p), p, nil)
		for _, g := range l {
			for i := n; i >= len(g)-1; i-- {
				sums[i] = sums[i] || sums[i-len(g)+1]
			}
		}
		for i := range possible {
			possible[i] = possible[i] && sums[i]
		}
	}
	for i := range possible {
		if possible[i] {
			return false
		}
	}
	return true
}

// 65521 is the greatest prime below 2^16, 65519 and 65537 are its neighbours.
func TestM2PrimesAround65536(t *testing.T) {
	one := big.NewInt(1)
	for _, last := range []int{97, 10007, 65497, 65519} {
		f := suitsNone(last)
		if p, k, _ := measures(f); p != prime.After(last) || k > 1000 || !isIrreducible(f) {
			t.Fatalf("the example for %d has the prime %d and the exponent %d", last, p, k)
		}
		expectFactors(t, fromBig(f), one, []known{{f, 1}})
		expectFactors(t, fromBig(scaled(f, big.NewInt(-6))), big.NewInt(-6), []known{{f, 1}})
	}
	f := suitsNone(65521)
	if p, _, _ := measures(f); p != 0 {
		t.Fatalf("the example has the prime %d", p)
	}
	// Its prime is all that makes it too large.
	p, k, n := measuresBy(f, 65537)
	if p != 65537 || k > 1000 || n > 12 {
		t.Fatalf("the example would have the prime %d, the exponent %d and %d factors", p, k, n)
	}
	expectError(t, fromBig(f), api.ErrLong)
	expectError(t, fromBig(scaled(f, big.NewInt(-6))), api.ErrLong)
	expectError(t, fromBig(suitsNone(65537)), api.ErrLong)
	// With a factor, so that lifted factors are put together modulo the prime.
	f = mul(suitsNone(10007), bigs(1, 1, 1))
	if p, k, n = measures(f); p < 10007 || k > 1000 || n < 3 || n > 12 {
		t.Fatalf("the product has the prime %d, the exponent %d and %d factors", p, k, n)
	}
	expectFactors(t, fromBig(f), one, []known{{bigs(1, 1, 1), 1}, {suitsNone(10007), 1}})
}

// Each part of the square-free factorization is asked for itself.
func TestM2OneOfSeveralTooLarge(t *testing.T) {
	one, s := big.NewInt(1), noise(10)
	great := []*big.Int{power2(998, -1), one}
	for i, x := range []struct {
		l       []known
		isLarge bool
	}{
		{linearFactors(0, 12), true},
		{append(linearFactors(0, 12), known{bigs(5, 1), 2}), true},
		{append(linearFactors(0, 11), known{bigs(5, 1), 2}), false},
		{[]known{{great, 1}, {bigs(5, 1), 2}}, true},
		{[]known{{great, 2}, {bigs(5, 1), 1}}, true},
		{[]known{{great, 5}}, true},
		{[]known{{bigs(0, 1), 1}, {bigs(1, 1), 2}, {great, 3}}, true},
		// Together they are too great, but not one by one.
		{[]known{{[]*big.Int{power2(990, 0), one}, 1}, {[]*big.Int{power2(985, 0), one}, 2}, {[]*big.Int{power2(980, 0), one}, 3}}, false},
		{[]known{{[]*big.Int{power2(990, 0), one}, 1}, {[]*big.Int{power2(985, 0), one}, 1}, {[]*big.Int{power2(980, 0), one}, 1}}, true},
		{[]known{{[]*big.Int{power2(990, 0), one}, 10}, {bigs(0, 1), 45}}, false},
	} {
		if expectProduct(t, &s, one, x.l) == x.isLarge {
			t.Errorf("M2: example %d: too large: %t", i, !x.isLarge)
		}
		expectProduct(t, &s, new(big.Int).Neg(power2(2000, 9)), x.l)
	}
	// 24 factors, of two multiplicities.
	l := linearFactors(12, 23)
	for i := range l {
		l[i].n = 2
	}
	if !expectProduct(t, &s, one, append(l, linearFactors(0, 11)...)) {
		t.Error("M2: 12 factors once and 12 twice are too large")
	}
	if expectProduct(t, &s, one, append(l, linearFactors(-1, 11)...)) || expectProduct(t, &s, one, append(l, one13()...)) {
		t.Error("M2: 13 factors and 12 are not too large")
	}
}

// one13 are 13 factors, each to the power of 3.
func one13() []known {
	l := linearFactors(-13, -1)
	for i := range l {
		l[i].n = 3
	}
	return l
}

// Random ones, which are too large for one reason or another.
func TestM2Large(t *testing.T) {
	s, large := noise(11), 0
	for n := range 150 {
		var l []known
		for range 1 + n%5 {
			l = append(l, known{s.eisenstein(1+s.below(7), 2+s.below(2), s.below(150)), 1 + s.below(2)})
		}
		if !expectProduct(t, &s, s.great(300), l) {
			large++
		}
	}
	if large < 30 || large > 120 {
		t.Errorf("M2: %d of the samples were too large", large)
	}
}
