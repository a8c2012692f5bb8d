package modular_test

import (
	"math"
	"math/big"
	"slices"
	"testing"
)

const greatest = 1<<31 - 1 // of the primes

// primes are some of all sizes, with the least and the greatest ones.
func primes() []int {
	return []int{2, 3, 5, 7, 101, 65537, 1073741827, 2147483629, greatest}
}

// noPrimes are numbers that no call takes for a prime: those below 2, products,
// and those beyond the greatest prime, among which are primes of the integers,
// and numbers whose low 32 digits are a prime's.
func noPrimes() []int {
	return []int{
		0, 1, 4, 6, 9, 15, 341, 46339 * 46339, 1 << 30, greatest - 1,
		-1, -2, -3, -7, -greatest, -1 << 31, math.MinInt, math.MinInt + 1,
		1 << 31, 1<<31 + 11, 1 << 32, 1<<32 + 2, 1<<32 + 3, -1<<32 + 5, 1<<61 - 1, math.MaxInt - 24, math.MaxInt,
	}
}

// ints are coefficients for p: residues, their neighbours on both sides, and the
// ends of the ints.
func ints(p int) []int {
	return []int{
		0, 1, -1, 2, -3, 10, p - 1, p, p + 1, -p, 1 - p, -p - 1, p / 2, p * p, p*p - 1, -p * p,
		1 << 31, 1<<32 - 1, -1 << 32, 1<<62 + 1, math.MaxInt / p * p, math.MaxInt, math.MaxInt - 1, math.MinInt, math.MinInt + 1,
	}
}

// noise makes numbers that look like chance, the same in each run.
type noise uint64

func (s *noise) below(n int) int {
	*s = *s*6364136223846793005 + 1442695040888963407
	return int(*s>>33) % n
}

// list makes a list of n coefficients, plain or not.
func (s *noise) list(n, p int) []int {
	all := ints(p)
	l := make([]int, n)
	for i := range l {
		if s.below(2) == 0 {
			l[i] = all[s.below(len(all))]
		} else {
			l[i] = s.below(greatest) - greatest/2
		}
	}
	return l
}

// plain makes a plain polynomial of n coefficients.
func (s *noise) plain(n, p int) []int {
	l := make([]int, n)
	for i := range l {
		l[i] = s.below(p)
	}
	if n > 0 {
		l[n-1] = 1 + s.below(p-1)
	}
	return l
}

// nothings are lists that represent 0.
func nothings(p int) [][]int {
	return [][]int{nil, {}, {0}, {p}, {-p}, {0, 0, 0}, {p, -p, 0, p * p}, {math.MaxInt / p * p, 0}}
}

// constants are lists that represent constants other than 0.
func constants(p int) [][]int {
	return [][]int{{1}, {-1}, {p - 1}, {1 - p}, {p + 1, 0}, {1 - p*p, p, -p, 0}, {math.MaxInt/p*p - 1}}
}

// samples are lists of many lengths and shapes: some are 0, others constants, and
// others have zeros or multiples of p at their ends.
func samples(p int) [][]int {
	all := append(nothings(p), constants(p)...)
	s := noise(p)
	for n := 1; n <= 6; n++ {
		all = append(all, s.list(n, p), s.list(n, p), s.plain(n, p), append(s.plain(n, p), 0, p, -p))
	}
	great := slices.Repeat([]int{p - 1}, 9)
	return append(all, []int{0, 1}, []int{0, 0, 1}, []int{-1, 0, 1}, []int{1, 2, 1}, great, append(great, -p), []int{math.MinInt, math.MaxInt, math.MinInt}, ints(p))
}

// few are samples of which triples can be gone through.
func few(p int) [][]int {
	s := noise(p + 1)
	return [][]int{nil, {p, 0}, {1}, {-1, p}, {0, 1}, {p - 1, 0, -1}, s.list(2, p), s.list(3, p), s.list(4, p), s.plain(5, p), slices.Repeat([]int{p - 1}, 5)}
}

// small are all lists of up to n residues.
func small(n, p int) [][]int {
	all, last := [][]int{nil}, [][]int{nil}
	for range n {
		var next [][]int
		for _, f := range last {
			for c := range p {
				next = append(next, append(slices.Clone(f), c))
			}
		}
		all, last = append(all, next...), next
	}
	return all
}

func isPlain(f []int, p int) bool {
	for _, c := range f {
		if c < 0 || c >= p {
			return false
		}
	}
	return len(f) == 0 || f[len(f)-1] != 0
}

// ring reckons with polynomials as the library reckons with integers: by other
// ways than the package, and as slowly as need be.
type ring struct{ p *big.Int }

func over(p int) ring { return ring{large(p)} }

func large(n int) *big.Int { return big.NewInt(int64(n)) }

type polynomial []*big.Int

func (r ring) residue(x *big.Int) *big.Int { return new(big.Int).Mod(x, r.p) }

func (r ring) read(f []int) polynomial {
	l := make(polynomial, len(f))
	for i, c := range f {
		l[i] = large(c)
	}
	return r.trim(l)
}

func (r ring) trim(f polynomial) polynomial {
	var l polynomial
	last := 0
	for i, c := range f {
		l = append(l, r.residue(c))
		if l[i].Sign() != 0 {
			last = i + 1
		}
	}
	return l[:last]
}

func (f polynomial) at(i int) *big.Int {
	if i < 0 || i >= len(f) {
		return new(big.Int)
	}
	return f[i]
}

func (f polynomial) write() []int {
	l := make([]int, len(f))
	for i, c := range f {
		l[i] = int(c.Int64())
	}
	return l
}

func (r ring) plus(f, g polynomial) polynomial {
	l := make(polynomial, max(len(f), len(g)))
	for i := range l {
		l[i] = new(big.Int).Add(f.at(i), g.at(i))
	}
	return r.trim(l)
}

func (r ring) scaled(f polynomial, c *big.Int) polynomial {
	l := make(polynomial, len(f))
	for i := range f {
		l[i] = new(big.Int).Mul(f[i], c)
	}
	return r.trim(l)
}

func (r ring) minus(f, g polynomial) polynomial {
	return r.plus(f, r.scaled(g, large(-1)))
}

func (r ring) times(f, g polynomial) polynomial {
	l := make(polynomial, len(f)+len(g))
	for k := range l {
		l[k] = new(big.Int)
		for i := range f {
			l[k].Add(l[k], new(big.Int).Mul(f[i], g.at(k-i)))
		}
	}
	return r.trim(l)
}

func (r ring) monic(f polynomial) polynomial {
	if len(f) == 0 {
		return f
	}
	return r.scaled(f, new(big.Int).ModInverse(f[len(f)-1], r.p))
}

// rest subtracts multiples of g as long as one is not too long.
func (r ring) rest(f, g polynomial) polynomial {
	g = r.monic(g)
	for len(f) >= len(g) {
		shifted := append(slices.Repeat(polynomial{new(big.Int)}, len(f)-len(g)), g...)
		f = r.minus(f, r.scaled(shifted, f[len(f)-1]))
	}
	return f
}

func (r ring) common(f, g polynomial) polynomial {
	for len(g) > 0 {
		f, g = g, r.rest(f, g)
	}
	return r.monic(f)
}

// power takes the digits of n from the lowest one on.
func (r ring) power(f polynomial, n int, m polynomial) polynomial {
	result := r.rest(polynomial{large(1)}, m)
	for f = r.rest(f, m); n > 0; n /= 2 {
		if n%2 == 1 {
			result = r.rest(r.times(result, f), m)
		}
		f = r.rest(r.times(f, f), m)
	}
	return result
}

func (r ring) derivative(f polynomial) polynomial {
	var l polynomial
	for i := 1; i < len(f); i++ {
		l = append(l, new(big.Int).Mul(f[i], large(i)))
	}
	return r.trim(l)
}

// value adds the powers of x.
func (r ring) value(f polynomial, x int) int {
	sum := new(big.Int)
	for i, c := range f {
		power := new(big.Int).Exp(r.residue(large(x)), large(i), r.p)
		sum.Add(sum, power.Mul(power, c))
	}
	return int(r.residue(sum).Int64())
}

// expect holds an answer against the plain form of what is wanted.
func expect(t *testing.T, got, want []int, what ...any) {
	t.Helper()
	if !slices.Equal(got, want) {
		t.Errorf("%v: %v, not %v", what, got, want)
	}
}

// The reference's own sums, products and rests, by hand.
func TestReference(t *testing.T) {
	r := over(7)
	f, g := r.read([]int{-1, 9, 3, 7}), r.read([]int{8, 1, 0})
	expect(t, f.write(), []int{6, 2, 3}, "read")
	expect(t, r.plus(f, g).write(), []int{0, 3, 3}, "plus")
	expect(t, r.minus(f, g).write(), []int{5, 1, 3}, "minus")
	expect(t, r.times(f, g).write(), []int{6, 1, 5, 3}, "times")
	expect(t, r.monic(f).write(), []int{2, 3, 1}, "monic")
	expect(t, r.rest(f, g).write(), nil, "rest")
	expect(t, r.common(f, r.read([]int{1, 0, -1})).write(), []int{1, 1}, "common")
	expect(t, r.power(g, 3, r.read([]int{0, 0, 1})).write(), []int{1, 3}, "power")
	expect(t, r.derivative(f).write(), []int{2, 6}, "derivative")
	if v := r.value(f, -2); v != 0 {
		t.Errorf("value: %d", v)
	}
	if l := small(3, 2); len(l) != 15 {
		t.Errorf("small: %d", len(l))
	}
	for _, p := range primes() {
		for _, f := range nothings(p) {
			expect(t, over(p).read(f).write(), nil, f, p)
		}
		for _, f := range constants(p) {
			if len(over(p).read(f)) != 1 {
				t.Errorf("no constant: %v modulo %d", f, p)
			}
		}
	}
}
