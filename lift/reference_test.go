package lift_test

import (
	"math"
	"math/big"
	"slices"
	"testing"

	"primrose/api"
	"primrose/lift"
	"primrose/modular"
)

const greatest = 1<<31 - 1 // of the primes

// primes are some of all sizes, with the least and the greatest ones.
func primes() []int {
	return []int{2, 3, 5, 7, 101, 65537, 1073741827, 2147483629, greatest}
}

// noPrimes are numbers that no call takes for a prime: those below 2, products,
// and those beyond the greatest prime, among which are primes of the integers,
// and numbers whose low 32 digits are a prime's.
func noPrimes() []int {
	return []int{
		0, 1, 4, 6, 9, 15, 341, 46339 * 46339, 1 << 30, greatest - 1,
		-1, -2, -3, -7, -greatest, -1 << 31, math.MinInt, math.MinInt + 1,
		1 << 31, 1<<31 + 11, 1 << 32, 1<<32 + 2, 1<<32 + 3, 1<<32 + 7, -1<<32 + 5, 1<<61 - 1, math.MaxInt - 24, math.MaxInt,
	}
}

// noPowers are exponents that no call takes.
func noPowers() []int {
	return []int{0, -1, -2, -1000, 1001, 1002, 1 << 20, 1<<32 + 1, -1<<32 + 1, 1<<63 - 1, -1 << 63}
}

// noise makes numbers that look like chance, the same in each run.
type noise uint64

func (s *noise) below(n int) int {
	*s = *s*6364136223846793005 + 1442695040888963407
	return int(*s>>33) % n
}

// great makes a number from 0 to n - 1, some of them the first or the last ones.
func (s *noise) great(n *big.Int) *big.Int {
	z := new(big.Int)
	switch s.below(8) {
	case 0:
		return z
	case 1:
		return z.Sub(n, big.NewInt(1))
	case 2:
		return z.Mod(big.NewInt(1), n)
	}
	for range n.BitLen()/31 + 2 {
		z.Add(z.Lsh(z, 31), big.NewInt(int64(s.below(1<<31))))
	}
	return z.Mod(z, n)
}

// monic makes a monic polynomial of degree n with coefficients from 0 to q - 1.
func (s *noise) monic(n int, q *big.Int) []*big.Int {
	f := make([]*big.Int, n+1)
	for i := range f {
		f[i] = s.great(q)
	}
	f[n] = big.NewInt(1)
	return f
}

// factors makes n monic polynomials of degrees from 1 to degree, no two of which
// have a common factor modulo p; fewer if p has none left.
func (s *noise) factors(n, degree, p int, q *big.Int) [][]*big.Int {
	var l [][]*big.Int
	all := []int{1}
	for range 20 * n {
		f := s.monic(1+s.below(degree), q)
		if len(l) < n && len(modular.Gcd(reduced(f, p), all, p)) == 1 {
			l, all = append(l, f), modular.Mul(all, reduced(f, p), p)
		}
	}
	return l
}

// change adds multiples of q to all coefficients but the last one, and some zeros
// to the end.
func (s *noise) change(f []*big.Int, q *big.Int) []*big.Int {
	var g []*big.Int
	for _, c := range f[:len(f)-1] {
		multiple := new(big.Int).Mul(q, big.NewInt(int64(s.below(9)-4)))
		if s.below(4) == 0 {
			multiple.Lsh(multiple, 300)
		}
		g = append(g, multiple.Add(multiple, c))
	}
	g = append(g, f[len(f)-1])
	for range s.below(3) {
		g = append(g, new(big.Int))
	}
	return g
}

// disguise makes a list that represents f modulo p: its coefficients are no
// residues, some as small or as great as an int can be, and multiples of p may
// stand at its end.
func (s *noise) disguise(f []int, p int) []int {
	l := append(slices.Clone(f), make([]int, s.below(3))...)
	for i, c := range l {
		switch s.below(4) {
		case 0:
			l[i] = c + (math.MaxInt-c)/p*p
		case 1:
			l[i] = c - p + (math.MinInt+p-c)/p*p
		case 2:
			l[i] = c + (s.below(9)-4)*p
		}
	}
	return l
}

// disguiseAll does so for the elements of a list.
func (s *noise) disguiseAll(l [][]int, p int) [][]int {
	var all [][]int
	for _, f := range l {
		all = append(all, s.disguise(f, p))
	}
	return all
}

// loose makes integers of other forms than the plain one: with zero limbs at the
// end, and 0 with a minus sign.
func (s *noise) loose(f []*big.Int) []api.Int {
	l := fromBig(f)
	for i := range l {
		l[i].Mag = append(l[i].Mag, make([]uint32, s.below(3))...)
		if f[i].Sign() == 0 && s.below(2) == 0 {
			l[i].Neg = true
		}
	}
	return l
}

func fromBig(f []*big.Int) []api.Int {
	l := make([]api.Int, len(f))
	mask := big.NewInt(math.MaxUint32)
	for i, c := range f {
		l[i].Neg = c.Sign() < 0
		for rest := new(big.Int).Abs(c); rest.Sign() > 0; rest.Rsh(rest, 32) {
			l[i].Mag = append(l[i].Mag, uint32(new(big.Int).And(rest, mask).Uint64()))
		}
	}
	return l
}

func toBig(f []api.Int) []*big.Int {
	l := make([]*big.Int, len(f))
	for i, c := range f {
		l[i] = new(big.Int)
		for k := len(c.Mag) - 1; k >= 0; k-- {
			l[i].Lsh(l[i], 32)
			l[i].Or(l[i], big.NewInt(int64(c.Mag[k])))
		}
		if c.Neg {
			l[i].Neg(l[i])
		}
	}
	return l
}

func bigs(l ...int) []*big.Int {
	f := make([]*big.Int, len(l))
	for i, n := range l {
		f[i] = big.NewInt(int64(n))
	}
	return f
}

func of(l ...int) []api.Int {
	return fromBig(bigs(l...))
}

func power(p, k int) *big.Int {
	return new(big.Int).Exp(big.NewInt(int64(p)), big.NewInt(int64(k)), nil)
}

// reduced returns the plain form of f modulo p.
func reduced(f []*big.Int, p int) []int {
	var l []int
	for _, c := range modulo(f, big.NewInt(int64(p))) {
		l = append(l, int(c.Int64()))
	}
	return modular.Plain(l, p)
}

func reducedAll(l [][]*big.Int, p int) [][]int {
	var all [][]int
	for _, f := range l {
		all = append(all, reduced(f, p))
	}
	return all
}

// modulo returns the residues of all coefficients.
func modulo(f []*big.Int, q *big.Int) []*big.Int {
	l := make([]*big.Int, len(f))
	for i, c := range f {
		l[i] = new(big.Int).Mod(c, q)
	}
	return l
}

func mul(f, g []*big.Int) []*big.Int {
	l := make([]*big.Int, len(f)+len(g)-1)
	for i := range l {
		l[i] = new(big.Int)
	}
	for i, a := range f {
		for k, b := range g {
			l[i+k].Add(l[i+k], new(big.Int).Mul(a, b))
		}
	}
	return l
}

func product(l [][]*big.Int) []*big.Int {
	f := bigs(1)
	for _, g := range l {
		f = mul(f, g)
	}
	return f
}

// isForm reports whether f has just these coefficients, in plain form.
func isForm(f []api.Int, want []*big.Int) bool {
	return slices.EqualFunc(f, fromBig(want), func(a, b api.Int) bool {
		return a.Neg == b.Neg && slices.Equal(a.Mag, b.Mag)
	})
}

// expectFactors holds an answer of Lift against what it has to be.
func expectFactors(t *testing.T, f []api.Int, l [][]int, p, k int, want [][]*big.Int) {
	t.Helper()
	got, e := lift.Lift(f, l, p, k)
	if e != api.OK || !slices.EqualFunc(got, want, isForm) {
		t.Fatalf("L1: Lift of %v, %v, %d, %d: %v, %d, not %v", toBig(f), l, p, k, got, e, want)
	}
}

// expectDefinition holds an answer of Lift against what determines it.
func expectDefinition(t *testing.T, f []*big.Int, l [][]int, p, k int) {
	t.Helper()
	got, e := lift.Lift(fromBig(f), l, p, k)
	if e != api.OK || len(got) != len(l) {
		t.Fatalf("L1: Lift of %v, %v, %d, %d: %v, %d", f, l, p, k, got, e)
	}
	q := power(p, k)
	var all [][]*big.Int
	for i := range got {
		g := toBig(got[i])
		if !isForm(got[i], modulo(g, q)) || !slices.Equal(reduced(g, p), modular.Plain(l[i], p)) {
			t.Fatalf("L1: Lift of %v, %v, %d, %d: %v for %v", f, l, p, k, g, l[i])
		}
		if len(g) != len(modular.Plain(l[i], p)) || g[len(g)-1].Cmp(big.NewInt(1)) != 0 {
			t.Fatalf("L1: Lift of %v, %v, %d, %d: %v is not monic", f, l, p, k, g)
		}
		all = append(all, g)
	}
	if !isForm(fromBig(modulo(product(all), q)), modulo(f, q)) {
		t.Fatalf("L1: Lift of %v, %v, %d, %d: %v, which is not f", f, l, p, k, all)
	}
}

// expectError expects an error of Lift, and nothing else.
func expectError(t *testing.T, f []api.Int, l [][]int, p, k int, want api.Errno) {
	t.Helper()
	if got, e := lift.Lift(f, l, p, k); len(got) != 0 || e != want {
		t.Fatalf("L1: Lift of %v, %v, %d, %d: %v, %d, not %d", toBig(f), l, p, k, got, e, want)
	}
}

// The helpers themselves, by hand.
func TestReference(t *testing.T) {
	if f := toBig(fromBig(bigs(-5, 0, 1<<40, math.MinInt))); f[0].Int64() != -5 || f[1].Sign() != 0 || f[2].Int64() != 1<<40 || f[3].Int64() != math.MinInt {
		t.Errorf("fromBig and toBig: %v", f)
	}
	if f := product([][]*big.Int{bigs(2, 1), bigs(-3, 1), bigs(1, 0, 2)}); !isForm(fromBig(f), bigs(-6, -1, -11, -2, 2)) {
		t.Errorf("product: %v", f)
	}
	if isForm([]api.Int{{Neg: true}}, bigs(0)) || isForm([]api.Int{{Mag: []uint32{1, 0}}}, bigs(1)) || isForm(of(1, 0), bigs(1)) {
		t.Error("isForm takes what is not plain")
	}
	for _, p := range primes() {
		s, q := noise(p), power(p, 3)
		for n := range 30 {
			f := s.monic(1+n%5, q)
			if g := s.change(f, q); !slices.Equal(reduced(f, p), reduced(g, p)) || !slices.Equal(reduced(f, p), modular.Plain(s.disguise(reduced(g, p), p), p)) {
				t.Errorf("disguise of %v modulo %d: %v", f, p, g)
			}
		}
		if l := s.factors(4, 3, p, q); len(l) < 2 {
			t.Errorf("factors modulo %d: %v", p, l)
		}
	}
}
