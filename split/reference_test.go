package split_test

import (
	"math"
	"slices"
	"testing"

	"primrose/api"
	"primrose/modular"
	"primrose/split"
)

const greatest = 1<<31 - 1 // of the primes

// primes are some of all sizes, with the least and the greatest ones.
func primes() []int {
	return []int{2, 3, 5, 7, 101, 65537, 1073741827, 2147483629, greatest}
}

// noPrimes are numbers that no call takes for a prime: those below 2, products,
// and those beyond the greatest prime, among which are primes of the integers,
// and numbers whose low 32 digits are a prime's.
func noPrimes() []int {
	return []int{
		0, 1, 4, 6, 9, 15, 341, 46339 * 46339, 1 << 30, greatest - 1,
		-1, -2, -3, -7, -greatest, -1 << 31, math.MinInt, math.MinInt + 1,
		1 << 31, 1<<31 + 11, 1 << 32, 1<<32 + 2, 1<<32 + 3, -1<<32 + 5, 1<<61 - 1, math.MaxInt - 24, math.MaxInt,
	}
}

// noise makes numbers that look like chance, the same in each run.
type noise uint64

func (s *noise) below(n int) int {
	*s = *s*6364136223846793005 + 1442695040888963407
	return int(*s>>33) % n
}

// plain makes a plain polynomial of n coefficients.
func (s *noise) plain(n, p int) []int {
	l := make([]int, n)
	for i := range l {
		l[i] = s.below(p)
	}
	if n > 0 {
		l[n-1] = 1 + s.below(p-1)
	}
	return l
}

// disguise makes a list that represents a multiple of f by a constant: its
// coefficients are no residues, some as small or as great as an int can be, and
// multiples of p stand at its end.
func (s *noise) disguise(f []int, p int) []int {
	l := append(modular.Scale(f, 1+s.below(p-1), p), 0, 0)
	for i, c := range l {
		switch s.below(4) {
		case 0:
			l[i] = c + (math.MaxInt-c)/p*p
		case 1:
			l[i] = c - p + (math.MinInt+p-c)/p*p
		case 2:
			l[i] = c + (s.below(9)-4)*p
		}
	}
	return l
}

// nothings are lists that represent 0.
func nothings(p int) [][]int {
	return [][]int{nil, {}, {0}, {p}, {-p}, {0, 0, 0}, {p, -p, 0, p * p}, {math.MaxInt / p * p, math.MinInt / p * p, 0}}
}

// constants are lists that represent constants other than 0.
func constants(p int) [][]int {
	return [][]int{{1}, {-1}, {p - 1}, {1 - p}, {p + 1, 0}, {1 - p*p, p, -p, 0}, {math.MaxInt/p*p - 1, 0, math.MinInt / p * p}}
}

// allDraws are no draws, few, and many, alike and unlike, small and great.
func allDraws() [][]int {
	s := noise(4)
	many := make([]int, 5000)
	for i := range many {
		many[i] = s.below(greatest)<<32 - s.below(greatest)<<33
	}
	return [][]int{
		nil, {}, {0}, {1}, {5, 17, 1 << 40}, {-1, 0, 0, 3}, {math.MinInt, math.MaxInt}, many,
		slices.Repeat([]int{0}, 1000), slices.Repeat([]int{-1}, 1000), slices.Repeat([]int{7}, 1000),
		slices.Repeat([]int{math.MinInt}, 1000), slices.Repeat([]int{math.MaxInt}, 1000),
	}
}

// numbered returns the polynomial whose coefficients are the digits of number by
// p, the highest first: so the numbers are in order as the polynomials are.
func numbered(number, p int) []int {
	var f []int
	for ; number > 0; number /= p {
		f = append(f, number%p)
	}
	return f
}

// power is a small power of a small number.
func power(p, n int) int {
	all := 1
	for range n {
		all *= p
	}
	return all
}

// monics are the monic polynomials of degree n, in order.
func monics(n, p int) [][]int {
	var l [][]int
	for number := power(p, n); number < 2*power(p, n); number++ {
		l = append(l, numbered(number, p))
	}
	return l
}

// cut divides f by the monic g as by hand, and reports whether nothing is left.
func cut(f, g []int, p int) (q []int, ok bool) {
	f = slices.Clone(f)
	for len(f) >= len(g) {
		c, place := f[len(f)-1], len(f)-len(g)
		q = append(q, c)
		for i := range g {
			f[place+i] = (f[place+i] + (p-c)*g[i]) % p
		}
		f = f[:len(f)-1]
	}
	slices.Reverse(q)
	return q, slices.Max(append(f, 0)) == 0
}

// irreducibles are the monic irreducible polynomials of degrees from 1 to n, in
// order: those that none of half the degree or less divides.
func irreducibles(n, p int) [][]int {
	var l [][]int
	for degree := 1; degree <= n; degree++ {
		for _, f := range monics(degree, p) {
			if !slices.ContainsFunc(l, func(g []int) bool {
				_, ok := cut(f, g, p)
				return ok && 2*(len(g)-1) <= degree
			}) {
				l = append(l, f)
			}
		}
	}
	return l
}

// slow factors the monic f by dividing by all irreducible polynomials.
func slow(f []int, all [][]int, p int) [][]int {
	var l [][]int
	for _, g := range all {
		for {
			q, ok := cut(f, g, p)
			if !ok || len(f) == 1 {
				break
			}
			l, f = append(l, g), q
		}
	}
	return l
}

// product multiplies all of l.
func product(l [][]int, p int) []int {
	f := []int{1}
	for _, g := range l {
		f = modular.Mul(f, g, p)
	}
	return f
}

// before reports whether f stands before g.
func before(f, g []int) bool {
	if len(f) != len(g) {
		return len(f) < len(g)
	}
	f, g = slices.Clone(f), slices.Clone(g)
	slices.Reverse(f)
	slices.Reverse(g)
	return slices.Compare(f, g) < 0
}

// sorted puts the lists in order, in memory of their own.
func sorted(lists ...[][]int) [][]int {
	l := slices.Concat(lists...)
	for i := range l {
		for k := i; k > 0 && before(l[k], l[k-1]); k-- {
			l[k], l[k-1] = l[k-1], l[k]
		}
	}
	return l
}

func isSame(f, g [][]int) bool {
	return slices.EqualFunc(f, g, slices.Equal[[]int])
}

// byDegree returns the products of the different ones among factors, which are in
// order, for each degree from 1 to n.
func byDegree(factors [][]int, n, p int) [][]int {
	l := make([][]int, n)
	for i := range l {
		l[i] = []int{1}
	}
	for i, g := range factors {
		if i == 0 || !slices.Equal(g, factors[i-1]) {
			l[len(g)-2] = modular.Mul(l[len(g)-2], g, p)
		}
	}
	return l
}

// factored is the factorization without draws, whose error has to be OK.
func factored(t *testing.T, f []int, p int) [][]int {
	t.Helper()
	l, e := split.Factor(f, p, nil)
	if e != api.OK {
		t.Fatalf("Factor of %v modulo %d: %d", f, p, e)
	}
	return l
}

// expectFactors holds all calls for f, K1 to K3, whatever the draws are, against
// its known factors, which are in order.
func expectFactors(t *testing.T, f []int, p int, want [][]int, draws ...[]int) {
	t.Helper()
	n := len(modular.Plain(f, p)) - 1
	for _, d := range append(draws, nil) {
		if l, e := split.Factor(f, p, d); !isSame(l, want) || e != api.OK {
			t.Fatalf("K1: Factor of %v modulo %d: %v, %d, not %v; draws %v", f, p, l, e, want, d)
		}
	}
	if got := split.Irreducible(f, p); got != (len(want) == 1) {
		t.Fatalf("K2: Irreducible of %v modulo %d: %t", f, p, got)
	}
	if l, e := split.Degrees(f, p); !isSame(l, byDegree(want, n, p)) || e != api.OK {
		t.Fatalf("K3: Degrees of %v modulo %d: %v, %d, not %v", f, p, l, e, byDegree(want, n, p))
	}
}

// isIrreducible tells it by Rabin's test: x to the power of p^n leaves x, and with
// a lower exponent by which n can be divided nothing is common.
func isIrreducible(f []int, p int) bool {
	n := len(f) - 1
	x, y := []int{0, 1}, []int{0, 1}
	for i := 1; i < n; i++ {
		y, _ = modular.Pow(y, p, f, p)
		if n%i == 0 && len(modular.Gcd(f, modular.Sub(y, x, p), p)) != 1 {
			return false
		}
	}
	y, _ = modular.Pow(y, p, f, p)
	_, r, _ := modular.DivMod(modular.Sub(y, x, p), f, p)
	return n > 0 && len(r) == 0
}

// The reference itself, by hand.
func TestReference(t *testing.T) {
	if l := irreducibles(4, 2); !isSame(l, [][]int{{0, 1}, {1, 1}, {1, 1, 1}, {1, 1, 0, 1}, {1, 0, 1, 1}, {1, 1, 0, 0, 1}, {1, 0, 0, 1, 1}, {1, 1, 1, 1, 1}}) {
		t.Errorf("irreducible modulo 2: %v", l)
	}
	if l := irreducibles(2, 3); !isSame(l, [][]int{{0, 1}, {1, 1}, {2, 1}, {1, 0, 1}, {2, 1, 1}, {2, 2, 1}}) {
		t.Errorf("irreducible modulo 3: %v", l)
	}
	// There are (p^n - p) / n of a degree n that is a prime.
	for _, x := range []struct{ p, n, want int }{{2, 7, 18}, {3, 3, 8}, {3, 5, 48}, {5, 3, 40}, {7, 2, 21}, {11, 2, 55}} {
		all := irreducibles(x.n, x.p)
		if n := slices.IndexFunc(all, func(f []int) bool { return len(f)-1 == x.n }); len(all)-n != x.want {
			t.Errorf("irreducible modulo %d, of degree %d: %d", x.p, x.n, len(all)-n)
		}
		for _, f := range monics(x.n, x.p) {
			if isIrreducible(f, x.p) != slices.ContainsFunc(all, func(g []int) bool { return slices.Equal(f, g) }) {
				t.Errorf("%v modulo %d", f, x.p)
			}
		}
	}
	if l := slow([]int{0, 0, 1, 0, 1}, irreducibles(2, 2), 2); !isSame(l, [][]int{{0, 1}, {0, 1}, {1, 1}, {1, 1}}) {
		t.Errorf("slow: %v", l)
	}
	if l := sorted([][]int{{1, 1, 1}, {2, 1}}, [][]int{{0, 2, 1}, {1, 1}}); !isSame(l, [][]int{{1, 1}, {2, 1}, {1, 1, 1}, {0, 2, 1}}) {
		t.Errorf("sorted: %v", l)
	}
	if l := byDegree([][]int{{1, 1}, {1, 1}, {2, 1}, {1, 1, 0, 1}}, 4, 3); !isSame(l, [][]int{{2, 0, 1}, {1}, {1, 1, 0, 1}, {1}}) {
		t.Errorf("byDegree: %v", l)
	}
	for _, p := range primes() {
		s := noise(p)
		for n := range 30 {
			f := s.plain(1+n%6, p)
			if l := s.disguise(f, p); !slices.Equal(modular.Monic(l, p), modular.Monic(f, p)) {
				t.Errorf("disguise of %v modulo %d: %v", f, p, l)
			}
		}
	}
}
