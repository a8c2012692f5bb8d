package factor_test

import (
	"math"
	"math/big"
	"slices"
	"testing"

	"primrose/api"
	"primrose/factor"
	"primrose/modular"
	"primrose/prime"
	"primrose/split"
)

// noise makes numbers that look like chance, the same in each run.
type noise uint64

func (s *noise) below(n int) int {
	*s = *s*6364136223846793005 + 1442695040888963407
	return int(*s>>33) % n
}

// size makes a number from -n to n.
func (s *noise) size(n int) int {
	return s.below(2*n+1) - n
}

// great makes a number of at most that many binary digits, with either sign.
func (s *noise) great(digits int) *big.Int {
	z := new(big.Int)
	for range digits/31 + 1 {
		z.Add(z.Lsh(z, 31), big.NewInt(int64(s.below(1<<31))))
	}
	z.Rsh(z, uint(z.BitLen()-min(z.BitLen(), digits)))
	if s.below(2) == 0 {
		z.Neg(z)
	}
	return z
}

// eisenstein makes an irreducible polynomial of degree n: the prime q divides all
// coefficients but the last one, and the first one only once.
func (s *noise) eisenstein(n, q, digits int) []*big.Int {
	f := make([]*big.Int, n+1)
	for i := range f {
		f[i] = new(big.Int).Mul(s.great(digits), big.NewInt(int64(q)))
	}
	one := big.NewInt(int64(1 + s.below(q-1)))
	f[0].Add(f[0].Mul(f[0], big.NewInt(int64(q))), new(big.Int).Mul(one, big.NewInt(int64(q))))
	f[n].Add(f[n], one)
	return primitive(f)
}

// linear makes a primitive polynomial of degree 1.
func (s *noise) linear(n int) []*big.Int {
	return primitive(bigs(s.size(n), 1+s.below(n)))
}

// loose makes integers of other forms than the plain one, with zero limbs at the
// end, and 0 with a minus sign; and some zeros at the end.
func (s *noise) loose(f []*big.Int) []api.Int {
	l := fromBig(f)
	for range s.below(3) {
		l = append(l, api.Int{})
	}
	for i := range l {
		if len(l[i].Mag) == 0 && s.below(2) == 0 {
			l[i].Neg = true
		}
		l[i].Mag = append(l[i].Mag, make([]uint32, s.below(3))...)
	}
	return l
}

func fromBig(f []*big.Int) []api.Int {
	l := make([]api.Int, len(f))
	mask := big.NewInt(math.MaxUint32)
	for i, c := range f {
		l[i].Neg = c.Sign() < 0
		for rest := new(big.Int).Abs(c); rest.Sign() > 0; rest.Rsh(rest, 32) {
			l[i].Mag = append(l[i].Mag, uint32(new(big.Int).And(rest, mask).Uint64()))
		}
	}
	return l
}

func toBig(f []api.Int) []*big.Int {
	l := make([]*big.Int, len(f))
	for i, c := range f {
		l[i] = new(big.Int)
		for k := len(c.Mag) - 1; k >= 0; k-- {
			l[i].Lsh(l[i], 32)
			l[i].Or(l[i], big.NewInt(int64(c.Mag[k])))
		}
		if c.Neg {
			l[i].Neg(l[i])
		}
	}
	return l
}

func bigs(l ...int) []*big.Int {
	f := make([]*big.Int, len(l))
	for i, n := range l {
		f[i] = big.NewInt(int64(n))
	}
	return f
}

func of(l ...int) []api.Int {
	return fromBig(bigs(l...))
}

// power2 returns 2^n + d.
func power2(n, d int) *big.Int {
	z := new(big.Int).Lsh(big.NewInt(1), uint(n))
	return z.Add(z, big.NewInt(int64(d)))
}

// trimmed returns f without the zeros at its end.
func trimmed(f []*big.Int) []*big.Int {
	for len(f) > 0 && f[len(f)-1].Sign() == 0 {
		f = f[:len(f)-1]
	}
	return f
}

func mul(f, g []*big.Int) []*big.Int {
	l := make([]*big.Int, max(len(f)+len(g)-1, 0))
	for i := range l {
		l[i] = new(big.Int)
	}
	for i, a := range f {
		for k, b := range g {
			l[i+k].Add(l[i+k], new(big.Int).Mul(a, b))
		}
	}
	return l
}

func product(l ...[]*big.Int) []*big.Int {
	f := bigs(1)
	for _, g := range l {
		f = mul(f, g)
	}
	return f
}

func scaled(f []*big.Int, c *big.Int) []*big.Int {
	return mul(f, []*big.Int{c})
}

// content is that of M1, by math/big.
func content(f []*big.Int) *big.Int {
	z := new(big.Int)
	for _, c := range f {
		z.GCD(nil, nil, z, new(big.Int).Abs(c))
	}
	if f = trimmed(f); len(f) > 0 && f[len(f)-1].Sign() < 0 {
		z.Neg(z)
	}
	return z
}

func primitive(f []*big.Int) []*big.Int {
	var l []*big.Int
	c := content(f)
	for _, a := range trimmed(f) {
		l = append(l, new(big.Int).Quo(a, c))
	}
	return l
}

// quotient divides by fractions, and reports whether g divides f, and whether the
// quotient has integer coefficients. g is not 0.
func quotient(f, g []*big.Int) (q []*big.Int, divides, isWhole bool) {
	f, g = trimmed(f), trimmed(g)
	rest := make([]*big.Rat, len(f))
	for i, c := range f {
		rest[i] = new(big.Rat).SetInt(c)
	}
	isWhole = true
	q = make([]*big.Int, max(len(f)-len(g)+1, 0))
	for i := len(q) - 1; i >= 0; i-- {
		c := new(big.Rat).Quo(rest[i+len(g)-1], new(big.Rat).SetInt(g[len(g)-1]))
		q[i], isWhole = c.Num(), isWhole && c.IsInt()
		for k, b := range g {
			rest[i+k].Sub(rest[i+k], new(big.Rat).Mul(c, new(big.Rat).SetInt(b)))
		}
	}
	for _, c := range rest {
		if c.Sign() != 0 {
			return nil, false, false
		}
	}
	return q, true, isWhole
}

// cyclotomic returns the irreducible polynomial of the n-th roots of 1.
func cyclotomic(n int) []*big.Int {
	f := make([]*big.Int, n+1)
	for i := range f {
		f[i] = new(big.Int)
	}
	f[0].SetInt64(-1)
	f[n].SetInt64(1)
	for d := 1; d < n; d++ {
		if n%d == 0 {
			f, _, _ = quotient(f, cyclotomic(d))
		}
	}
	return f
}

// roots returns the polynomial whose roots are all sums of a root of each of the
// numbers, with either sign. It is irreducible if these are different primes, but
// modulo each prime it has factors of degree 2 at most.
func roots(numbers ...int) []*big.Int {
	f := bigs(0, 1)
	for _, n := range numbers {
		// With f(x + r) = a + r*b, where r^2 is n, f(x - r) is a - r*b.
		a, b := make([]*big.Int, len(f)), make([]*big.Int, len(f))
		for i := range f {
			a[i], b[i] = new(big.Int), new(big.Int)
		}
		for i, c := range f {
			for k := range i + 1 {
				z := new(big.Int).Binomial(int64(i), int64(k))
				z.Mul(z.Mul(z, c), new(big.Int).Exp(big.NewInt(int64(n)), big.NewInt(int64(k/2)), nil))
				if k%2 == 0 {
					a[i-k].Add(a[i-k], z)
				} else {
					b[i-k].Add(b[i-k], z)
				}
			}
		}
		f = mul(a, a)
		for i, c := range mul(b, b) {
			f[i].Sub(f[i], c.Mul(c, big.NewInt(int64(n))))
		}
	}
	return f
}

// known is a factor that is known to be irreducible, and how often it is one.
type known struct {
	f []*big.Int
	n int
}

// isBefore is the order of polynomials, by its words.
func isBefore(f, g []*big.Int) bool {
	if len(f) != len(g) {
		return len(f) < len(g)
	}
	for i := range f {
		if c := f[len(f)-1-i].Cmp(g[len(f)-1-i]); c != 0 {
			return c < 0
		}
	}
	return false
}

func isSame(f, g []*big.Int) bool {
	return slices.EqualFunc(f, g, func(a, b *big.Int) bool { return a.Cmp(b) == 0 })
}

// together puts the same factors into one and all of them into order.
func together(l []known) []known {
	var all []known
next:
	for _, x := range l {
		for i := range all {
			if isSame(all[i].f, x.f) {
				all[i].n += x.n
				continue next
			}
		}
		all = append(all, x)
	}
	for i := range all {
		for k := i; k > 0 && isBefore(all[k].f, all[k-1].f); k-- {
			all[k], all[k-1] = all[k-1], all[k]
		}
	}
	return all
}

// multiplied returns the product of a content and of factors.
func multiplied(c *big.Int, l []known) []*big.Int {
	f := []*big.Int{c}
	for _, x := range l {
		for range x.n {
			f = mul(f, x.f)
		}
	}
	return f
}

// monicForm is that of the chapter's words.
func monicForm(f []*big.Int) []*big.Int {
	n := len(f) - 1
	l := make([]*big.Int, n+1)
	for i := range n {
		l[i] = new(big.Int).Exp(f[n], big.NewInt(int64(n-1-i)), nil)
		l[i].Mul(l[i], f[i])
	}
	l[n] = big.NewInt(1)
	return l
}

func residues(f []*big.Int, p int) []int {
	l := make([]int, len(f))
	for i, c := range f {
		l[i] = int(new(big.Int).Mod(c, big.NewInt(int64(p))).Int64())
	}
	return l
}

// measures returns what decides whether f, which is primitive, square-free and no
// constant, is too large: its prime, or 0; the exponent, or 1001 if it is greater;
// and the number of factors modulo the prime.
func measures(f []*big.Int) (p, k, factors int) {
	p, k, factors = measuresBy(f, 2)
	if p > 1<<16 {
		return 0, 0, 0
	}
	return p, k, factors
}

// measuresBy does so for the least prime from that one on that could be f's.
func measuresBy(f []*big.Int, first int) (p, k, factors int) {
	form := monicForm(f)
	for p = first; ; p = prime.After(p) {
		if g := residues(form, p); len(modular.Gcd(g, modular.Deriv(g, p), p)) == 1 {
			break
		}
	}
	bound := new(big.Int)
	for _, c := range form {
		bound.Add(bound, new(big.Int).Abs(c))
	}
	bound.Mul(bound, power2(len(f), 0))
	q := big.NewInt(int64(p))
	for k = 1; k <= 1000 && q.Cmp(bound) <= 0; k++ {
		q.Mul(q, big.NewInt(int64(p)))
	}
	l, _ := split.Factor(residues(form, p), p, nil)
	return p, k, len(l)
}

func isTooLarge(f []*big.Int) bool {
	p, k, factors := measures(f)
	return p == 0 || k > 1000 || factors > 12
}

// isOneTooLarge asks the products of factors of each multiplicity.
func isOneTooLarge(l []known) bool {
	for _, x := range l {
		f := bigs(1)
		for _, y := range l {
			if x.n == y.n {
				f = mul(f, y.f)
			}
		}
		if isTooLarge(f) {
			return true
		}
	}
	return false
}

// isForm reports whether f has just these coefficients, in plain form.
func isForm(f []api.Int, want []*big.Int) bool {
	return slices.EqualFunc(f, fromBig(want), func(a, b api.Int) bool {
		return a.Neg == b.Neg && slices.Equal(a.Mag, b.Mag)
	})
}

// expectFactors holds an answer of Factor against what it has to be.
func expectFactors(t *testing.T, f []api.Int, c *big.Int, want []known) {
	t.Helper()
	content, l, e := factor.Factor(f)
	ok := slices.EqualFunc(l, want, func(a api.Factor, b known) bool { return a.N == b.n && isForm(a.P, b.f) })
	if e != api.OK || !ok || !isForm([]api.Int{content}, []*big.Int{c}) {
		t.Fatalf("M2: Factor of %v: %v, %s, %d, not %v, %v", toBig(f), toBig([]api.Int{content}), text(l), e, c, want)
	}
}

// expectError expects an error of Factor, and nothing else.
func expectError(t *testing.T, f []api.Int, want api.Errno) {
	t.Helper()
	content, l, e := factor.Factor(f)
	if e != want || len(l) != 0 || content.Neg || len(content.Mag) != 0 {
		t.Fatalf("M2: Factor of %v: %v, %s, %d, not %d", toBig(f), content, text(l), e, want)
	}
}

// expectProduct expects the product of these irreducible polynomials to be
// factored, or to be too large if the words say so. It reports whether it was
// factored.
func expectProduct(t *testing.T, s *noise, c *big.Int, l []known) bool {
	t.Helper()
	l = together(l)
	f := s.loose(multiplied(c, l))
	if isOneTooLarge(l) {
		expectError(t, f, api.ErrLong)
		return false
	}
	expectFactors(t, f, c, l)
	return true
}

func text(l []api.Factor) string {
	s := ""
	for _, x := range l {
		for i, c := range toBig(x.P) {
			if i > 0 {
				s += ","
			}
			s += c.String()
		}
		s += "^" + big.NewInt(int64(x.N)).String() + " "
	}
	return s
}

// The helpers themselves, by hand.
func TestReference(t *testing.T) {
	if f := roots(2, 3); !isSame(f, bigs(1, 0, -10, 0, 1)) {
		t.Errorf("roots: %v", f)
	}
	if f := cyclotomic(12); !isSame(f, bigs(1, 0, -1, 0, 1)) {
		t.Errorf("cyclotomic: %v", f)
	}
	if f := monicForm(bigs(7, 5, 3, 2)); !isSame(f, bigs(28, 10, 3, 1)) {
		t.Errorf("monicForm: %v", f)
	}
	if p, k, n := measures(bigs(1, 0, 0, 0, 1)); p != 3 || k != 4 || n != 2 { // 3^4 > 2^5 * 2
		t.Errorf("measures of x^4 + 1: %d, %d, %d", p, k, n)
	}
	if p, k, n := measures(bigs(0, 1)); p != 2 || k != 3 || n != 1 { // 2^3 > 2^2 * 1
		t.Errorf("measures of x: %d, %d, %d", p, k, n)
	}
	if q, divides, isWhole := quotient(bigs(1, 2, 1), bigs(2, 2)); !divides || isWhole || len(q) != 2 {
		t.Errorf("quotient: %v %t %t", q, divides, isWhole)
	}
	if c := content(bigs(4, -6, 0)); c.Int64() != -2 || !isSame(primitive(bigs(4, -6, 0)), bigs(-2, 3)) {
		t.Errorf("content: %v", c)
	}
	if isForm([]api.Int{{Neg: true}}, bigs(0)) || isForm([]api.Int{{Mag: []uint32{1, 0}}}, bigs(1)) || isForm(of(1, 0), bigs(1)) {
		t.Error("isForm takes what is not plain")
	}
	l := together([]known{{bigs(0, 2), 1}, {bigs(5, 1), 2}, {bigs(0, 2), 3}, {bigs(9, 0, 1), 1}, {bigs(-5, 1), 1}})
	if len(l) != 4 || l[0].f[0].Int64() != -5 || l[1].n != 2 || l[2].n != 4 || len(l[3].f) != 3 {
		t.Errorf("together: %v", l)
	}
	s := noise(1)
	for n := range 200 {
		f := s.great(n)
		if f.BitLen() > n || !isSame(toBig(s.loose([]*big.Int{f, f, big.NewInt(1)}))[:3], []*big.Int{f, f, big.NewInt(1)}) {
			t.Errorf("great and loose: %v", f)
		}
	}
}
