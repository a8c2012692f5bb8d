package split_test

import (
	"math"
	"slices"
	"testing"

	"primrose/api"
	"primrose/modular"
	"primrose/prime"
	"primrose/split"
)

func TestK1Examples(t *testing.T) {
	for _, x := range []struct {
		p    int
		f    []int
		want [][]int
	}{
		{5, []int{-1, 0, 1}, [][]int{{1, 1}, {4, 1}}},
		{3, []int{1, 0, 1}, [][]int{{1, 0, 1}}},
		{3, []int{0, 0, 0, 2}, [][]int{{0, 1}, {0, 1}, {0, 1}}},
		{2, []int{0, -1, 0, 1}, [][]int{{0, 1}, {1, 1}, {1, 1}}},
		{2, []int{1, 1}, [][]int{{1, 1}}},
		{2, []int{0, 1}, [][]int{{0, 1}}},
		{7, []int{3, 2}, [][]int{{5, 1}}},
		{7, []int{7, -14, 49, 6, 0, 7}, [][]int{{0, 1}, {0, 1}, {0, 1}}},
		{2, []int{1, 0, 1}, [][]int{{1, 1}, {1, 1}}},
		{2, []int{1, 1, 1}, [][]int{{1, 1, 1}}},
		{2, []int{1, 0, 1, 0, 1}, [][]int{{1, 1, 1}, {1, 1, 1}}},
		{2, []int{1, 1, 1, 1, 1, 1, 1}, [][]int{{1, 1, 0, 1}, {1, 0, 1, 1}}},
		{2, []int{1, 0, 0, 0, 1}, [][]int{{1, 1}, {1, 1}, {1, 1}, {1, 1}}},
		{17, []int{1, 0, 0, 0, 1}, [][]int{{2, 1}, {8, 1}, {9, 1}, {15, 1}}},
		{3, []int{1, 0, 0, 0, 1}, [][]int{{2, 1, 1}, {2, 2, 1}}},
		{7, []int{3, 3, 3}, [][]int{{3, 1}, {5, 1}}},
		{5, []int{1, 0, 0, 0, 0, 1}, slices.Repeat([][]int{{1, 1}}, 5)},
		{greatest, []int{-4, 0, 1}, [][]int{{2, 1}, {greatest - 2, 1}}},
		{greatest, []int{1, 0, 1}, [][]int{{1, 0, 1}}},
		{greatest, []int{math.MaxInt, math.MinInt}, [][]int{{(greatest - 1) / 2, 1}}},
		{2, []int{math.MinInt, math.MaxInt, math.MaxInt}, [][]int{{0, 1}, {1, 1}}},
	} {
		expectFactors(t, x.f, x.p, x.want, allDraws()...)
	}
}

func TestK2Irreducible(t *testing.T) {
	for _, x := range []struct {
		p    int
		f    []int
		want bool
	}{
		{2, []int{1, 1, 0, 1}, true}, {2, []int{1, 0, 1}, false}, {2, []int{1}, false}, {2, nil, false}, {2, []int{0, 1}, true},
		{2, []int{1, 1, 1, 1}, false}, {2, []int{1, 1, 1, 1, 1}, true}, {2, []int{1, 0, 1, 0, 1}, false}, {2, []int{3, -1, 0, 7, 2}, true},
		{3, []int{1, 0, 1}, true}, {3, []int{2, 0, 2, 3}, true}, {3, []int{2, 0, 1}, false}, {3, []int{0, 0, 1}, false}, {3, []int{3, 3}, false},
		{5, []int{3, 2}, true}, {5, []int{0, 4, 5, 0}, true}, {5, []int{1, 0, 1}, false}, {5, []int{2, 0, 1}, true}, {5, []int{4}, false},
		{4, []int{1, 1}, false}, {1, []int{1, 1}, false}, {0, []int{1, 1}, false}, {-3, []int{1, 1}, false}, {1 << 31, []int{1, 1}, false},
		{greatest, []int{1, 0, 1}, true}, {greatest, []int{-1, 0, 1}, false}, {greatest, []int{1, 0, 2, 0, 1}, false}, {greatest, []int{-7, 0, 0, 1}, true},
	} {
		if got := split.Irreducible(x.f, x.p); got != x.want {
			t.Errorf("%v modulo %d: %t", x.f, x.p, got)
		}
	}
}

func TestK3Degrees(t *testing.T) {
	one := []int{1}
	for _, x := range []struct {
		p    int
		f    []int
		want [][]int
	}{
		{2, []int{0, -1, 0, 1}, [][]int{{0, 1, 1}, one, one}},
		{7, []int{3, 0, 6, 0, 3, 0, 0}, [][]int{one, {1, 0, 1}, one, one}},
		{3, []int{0, 0, 0, 2}, [][]int{{0, 1}, one, one}},
		{3, []int{0, 2, 0, 2}, [][]int{{0, 1}, {1, 0, 1}, one}},
		{2, []int{1, 1, 0, 1}, [][]int{one, one, {1, 1, 0, 1}}},
		{2, []int{1, 0, 0, 0, 0, 0, 0, 1}, [][]int{{1, 1}, one, {1, 1, 1, 1, 1, 1, 1}, one, one, one, one}},
		{2, []int{1, 1, 1, 0, 1, 1, 1}, [][]int{{1, 1}, {1, 1, 1}, one, one, one, one}},
		{5, []int{1, 0, 1}, [][]int{{1, 0, 1}, one}},
		{5, []int{-2, 4}, [][]int{{2, 1}}},
		{5, []int{6, 0, -5}, nil},
		{greatest, []int{1, 0, 2, 0, 1}, [][]int{one, {1, 0, 1}, one, one}},
	} {
		if l, e := split.Degrees(x.f, x.p); !isSame(l, x.want) || e != api.OK {
			t.Errorf("%v modulo %d: %v, %d", x.f, x.p, l, e)
		}
	}
}

// A p that is no prime is told ahead of a polynomial that is 0.
func TestNoPrimes(t *testing.T) {
	for _, p := range noPrimes() {
		for _, f := range [][]int{nil, {}, {0}, {0, 0}, {p}, {1}, {5, 1}, {2, 0, 1}, {1, 1, 0, 1}, {math.MaxInt, math.MinInt, 1}} {
			for _, draws := range [][]int{nil, {3, 4}} {
				if l, e := split.Factor(f, p, draws); len(l) != 0 || e != api.ErrPrime {
					t.Errorf("Factor of %v modulo %d: %v, %d", f, p, l, e)
				}
			}
			if split.Irreducible(f, p) {
				t.Errorf("Irreducible of %v modulo %d", f, p)
			}
			if l, e := split.Degrees(f, p); len(l) != 0 || e != api.ErrPrime {
				t.Errorf("Degrees of %v modulo %d: %v, %d", f, p, l, e)
			}
		}
	}
}

func TestZero(t *testing.T) {
	for _, p := range primes() {
		for _, f := range nothings(p) {
			for _, draws := range allDraws() {
				if l, e := split.Factor(f, p, draws); len(l) != 0 || e != api.ErrZero {
					t.Errorf("Factor of %v modulo %d: %v, %d", f, p, l, e)
				}
			}
			if split.Irreducible(f, p) {
				t.Errorf("Irreducible of %v modulo %d", f, p)
			}
			if l, e := split.Degrees(f, p); len(l) != 0 || e != api.ErrZero {
				t.Errorf("Degrees of %v modulo %d: %v, %d", f, p, l, e)
			}
		}
	}
}

func TestConstants(t *testing.T) {
	for _, p := range primes() {
		for _, f := range constants(p) {
			expectFactors(t, f, p, nil, allDraws()...)
		}
	}
}

func TestDegreeOne(t *testing.T) {
	for _, p := range primes() {
		s := noise(p)
		for _, c := range []int{0, 1, p / 2, p - 1} {
			want := [][]int{{c, 1}}
			expectFactors(t, []int{c, 1}, p, want, allDraws()...)
			for range 10 {
				expectFactors(t, s.disguise(want[0], p), p, want)
			}
		}
	}
}

// All polynomials up to a degree, with all residues as their last coefficients.
func TestSmallPolynomials(t *testing.T) {
	draws := [][]int{{1, -2, 3}, slices.Repeat([]int{-1}, 20)}
	for _, x := range []struct{ p, n int }{{2, 9}, {3, 5}, {5, 4}, {7, 3}, {11, 2}} {
		all := irreducibles(x.n, x.p)
		for n := range x.n + 1 {
			for _, f := range monics(n, x.p) {
				want := slow(f, all, x.p)
				expectFactors(t, f, x.p, want, draws...)
				for c := 2; c < x.p; c++ {
					expectFactors(t, modular.Scale(f, c, x.p), x.p, want)
				}
			}
		}
	}
}

// The same polynomials in many guises.
func TestDisguises(t *testing.T) {
	for _, x := range []struct{ p, n int }{{2, 6}, {3, 4}, {5, 3}, {7, 2}} {
		s := noise(x.p)
		all := irreducibles(x.n, x.p)
		for number := 1; number < power(x.p, x.n); number++ {
			f := numbered(number, x.p)
			expectFactors(t, s.disguise(f, x.p), x.p, slow(modular.Monic(f, x.p), all, x.p))
		}
	}
	for _, p := range []int{65537, 2147483629, greatest} {
		s := noise(p)
		for n := 2; n < 8; n++ {
			f := s.plain(n, p)
			want := factored(t, f, p)
			for range 5 {
				expectFactors(t, s.disguise(f, p), p, want, []int{n})
			}
		}
	}
}

// x to the power of p^n, minus x, is the product of all monic irreducible
// polynomials whose degrees divide n: as many as there are.
func TestAllThereAre(t *testing.T) {
	for _, x := range []struct{ p, n int }{
		{2, 1}, {2, 2}, {2, 3}, {2, 4}, {2, 5}, {2, 6}, {2, 7}, {2, 8}, {3, 1}, {3, 2}, {3, 3}, {3, 4}, {5, 1}, {5, 2}, {5, 3}, {7, 2}, {101, 1}, {509, 1},
	} {
		var want [][]int
		for _, g := range irreducibles(x.n, x.p) {
			if x.n%(len(g)-1) == 0 {
				want = append(want, g)
			}
		}
		f := make([]int, power(x.p, x.n)+1)
		f[1], f[len(f)-1] = -1, 1
		expectFactors(t, f, x.p, want, allDraws()...)
	}
}

// All of one degree, and of all degrees up to one, at once.
func TestSeveralOfOneDegree(t *testing.T) {
	for _, x := range []struct{ p, n int }{{2, 7}, {3, 4}, {5, 3}, {7, 2}, {11, 2}} {
		all := irreducibles(x.n, x.p)
		for degree := 1; degree <= x.n; degree++ {
			var want [][]int
			for _, g := range all {
				if len(g)-1 == degree {
					want = append(want, g)
					if i := len(want); i <= 12 || i%50 == 0 {
						expectFactors(t, product(want, x.p), x.p, want, []int{5, 6, -7})
					}
				}
			}
			expectFactors(t, product(want, x.p), x.p, want, allDraws()[:6]...)
		}
		expectFactors(t, product(all, x.p), x.p, all, nil)
	}
}

// Powers, also by p, by multiples of p and by powers of p, and products of such
// with others.
func TestRepeatedFactors(t *testing.T) {
	for _, x := range []struct{ p, n int }{{2, 5}, {3, 3}, {5, 2}, {7, 2}} {
		p := x.p
		s := noise(p)
		all := irreducibles(x.n, p)
		times := []int{0, 1, 2, p - 1, p, p + 1, 2 * p, 2*p + 1, p * p, p*p + 1, p*p + p, 2*p*p - 1}
		for _, n := range times {
			for range 3 {
				g := all[s.below(len(all))]
				expectFactors(t, product(slices.Repeat([][]int{g}, n), p), p, slices.Repeat([][]int{g}, n), []int{3})
			}
		}
		for range 60 {
			var want [][]int
			for range 1 + s.below(5) {
				g := all[s.below(len(all))]
				want = append(want, slices.Repeat([][]int{g}, times[s.below(len(times))])...)
			}
			expectFactors(t, s.disguise(product(want, p), p), p, sorted(want), []int{math.MinInt, 0})
		}
	}
}

// Great multiplicities take a moment.
func TestGreatPowers(t *testing.T) {
	for _, p := range []int{2, 3, 101, greatest} {
		for _, g := range [][]int{{0, 1}, {1, 1}} {
			for _, n := range []int{1000, 1024, 1009} {
				expectFactors(t, product(slices.Repeat([][]int{g}, n), p), p, slices.Repeat([][]int{g}, n))
			}
		}
	}
	// The derivative is 0, down to x + 1.
	for _, x := range []struct{ p, n int }{{2, 1024}, {3, 729}, {5, 625}, {7, 343}, {101, 101}, {1009, 1009}} {
		f := make([]int, x.n+1)
		f[0], f[x.n] = 1, 1
		expectFactors(t, f, x.p, slices.Repeat([][]int{{1, 1}}, x.n))
	}
}

// The roots of x^2 - a are those whose squares are a; of all roots, each is told.
func TestLinearFactors(t *testing.T) {
	for _, p := range []int{65537, 1073741827, 2147483629, greatest} {
		s := noise(p)
		var want [][]int
		for n := range 40 {
			g := []int{s.below(p), 1}
			want = append(want, g, []int{n, 1})
		}
		want = append(want, []int{p - 1, 1}, []int{p / 2, 1}, []int{p/2 + 1, 1})
		expectFactors(t, product(want, p), p, sorted(want), allDraws()[:6]...)
		for a := 1; a < 40; a++ {
			root := s.below(p)
			square := prime.Mul(root, root, p)
			expectFactors(t, []int{-square, 0, 1}, p, sorted([][]int{{root, 1}, {(p - root) % p, 1}}))
			if isSquare := prime.Pow(a, (p-1)/2, p) == 1; split.Irreducible([]int{-a, 0, 1}, p) == isSquare {
				t.Errorf("x^2 - %d modulo %d", a, p)
			}
		}
	}
}

// x^n - a is irreducible if n's prime divisors divide p - 1 and a is no power by
// them (and 4 does not divide n); so it is with x + c for x.
func binomial(n, a, c, p int) []int {
	f := product(slices.Repeat([][]int{{c, 1}}, n), p)
	return modular.Sub(f, []int{a}, p)
}

func TestGreatestPrime(t *testing.T) {
	p := greatest
	for _, q := range []int{2, 3, 7, 11} { // 7 is no power modulo p
		if (p-1)%q != 0 || prime.Pow(7, (p-1)/q, p) == 1 {
			t.Fatalf("7 to the power of (p - 1) / %d", q)
		}
	}
	var want [][]int
	for _, n := range []int{2, 3, 6, 7, 9, 11, 14, 21} {
		f := binomial(n, 7, 0, p)
		expectFactors(t, f, p, [][]int{f})
		want = append(want, binomial(n, 7, 5, p), f)
		if n < 8 {
			want = append(want, binomial(n, 7, -3, p), binomial(n, 7, 1<<20, p), []int{n * n * n, 1}, f)
		}
	}
	s := noise(p)
	expectFactors(t, s.disguise(product(want, p), p), p, sorted(want), allDraws()[:7]...)
}

// The trinomials x^n + x^k + 1 for known n and k: irreducible modulo 2, and with
// many alike coefficients.
func trinomial(n, k int) []int {
	f := make([]int, n+1)
	f[0], f[k], f[n] = 1, 1, 1
	return f
}

func TestTrinomials(t *testing.T) {
	for _, x := range []struct {
		n    int
		some []int
	}{
		{2, []int{1}}, {3, []int{1, 2}}, {4, []int{1, 3}}, {6, []int{1, 3, 5}}, {7, []int{1, 3, 4, 6}}, {9, []int{1, 4, 5, 8}},
		{15, []int{1, 4, 7, 8, 11, 14}}, {22, []int{1, 21}}, {28, []int{1, 3, 9, 13}}, {63, []int{1, 5, 31}}, {127, []int{1, 7, 15, 30, 63}},
	} {
		var want [][]int
		for _, k := range x.some {
			f := trinomial(x.n, k)
			expectFactors(t, f, 2, [][]int{f}, []int{k})
			want = append(want, f)
		}
		draws := allDraws()
		if x.n > 60 {
			draws = draws[6:8]
		}
		expectFactors(t, product(want, 2), 2, want, draws...)
	}
	for _, n := range []int{5, 8, 10, 13, 16, 19, 32} { // x^n + x + 1 for other n
		if f := trinomial(n, 1); split.Irreducible(f, 2) || len(factored(t, f, 2)) < 2 {
			t.Errorf("x^%d + x + 1", n)
		}
	}
}

// x^p - x - a is irreducible for each a but 0; p divides its degree, so that the
// traces of most powers of x are 0.
func TestArtinSchreier(t *testing.T) {
	for _, p := range []int{2, 3, 5, 7, 11, 13} {
		var want [][]int
		for a := 1; a < p; a++ {
			f := make([]int, p+1)
			f[0], f[1], f[p] = a, p-1, 1
			expectFactors(t, f, p, [][]int{f})
			want = append(want, f)
		}
		expectFactors(t, product(want, p), p, want, allDraws()...)
		expectFactors(t, product(append(want, want...), p), p, sorted(want, want), []int{-1})
	}
	f := make([]int, 102)
	f[0], f[1], f[101] = 3, 100, 1
	expectFactors(t, f, 101, [][]int{f})
}
