package dense_test

import (
	"math"
	"math/big"
	"slices"
	"testing"

	"primrose/api"
	"primrose/dense"
	"primrose/fraction"
)

const top = math.MaxUint32

// of makes a polynomial with integers as coefficients.
func of(numbers ...int) []api.Rat {
	l := make([]api.Rat, len(numbers))
	for i, n := range numbers {
		l[i] = fraction.Of(n)
	}
	return l
}

// rat makes a fraction as it is given, plain or not.
func rat(num, den int) api.Rat {
	x, y := fraction.Of(num), fraction.Of(den)
	return api.Rat{Num: x.Num, Den: y.Num.Mag}
}

// zeros are the shapes of the coefficient 0: with any Den if Num is 0, with any
// Num if Den is 0.
func zeros() []api.Rat {
	return []api.Rat{
		rat(0, 1), rat(0, 9), rat(5, 0), rat(-5, 0), {},
		{Num: api.Int{Neg: true}},
		{Num: api.Int{Neg: true, Mag: []uint32{0, 0}}, Den: []uint32{3}},
		{Num: api.Int{Neg: true, Mag: []uint32{0}}, Den: []uint32{1}},
		{Num: api.Int{Mag: []uint32{7}}, Den: []uint32{0, 0}},
	}
}

// coefficients are fractions of many shapes: plain ones, those with leading zero
// limbs or with common divisors, and those that are 0.
func coefficients() []api.Rat {
	return append(zeros(), rat(1, 1), rat(-1, 1), rat(2, 1), rat(-3, 4), rat(6, 4), rat(-10, 5), rat(5, 7),
		api.Rat{Num: api.Int{Neg: true, Mag: []uint32{6, 0}}, Den: []uint32{9, 0, 0}},
		api.Rat{Num: api.Int{Mag: []uint32{4, 0, 0}}, Den: []uint32{1, 0}},
		api.Rat{Num: api.Int{Mag: []uint32{top, 5}}, Den: []uint32{0, 1, 0}},
		api.Rat{Num: api.Int{Neg: true, Mag: []uint32{0, 3, 1}}, Den: []uint32{top, 3}},
	)
}

// noise makes numbers that look like chance, the same in each run.
type noise uint64

func (s *noise) below(n int) int {
	*s = *s*6364136223846793005 + 1442695040888963407
	return int(*s>>33) % n
}

// list makes a list of so many coefficients of any shape.
func (s *noise) list(n int) []api.Rat {
	all := coefficients()
	l := make([]api.Rat, n)
	for i := range l {
		l[i] = all[s.below(len(all))]
	}
	return l
}

// plain makes a plain polynomial of the degree n, with parts of coefficients up
// to high and denominators up to low.
func (s *noise) plain(n, high, low int) []api.Rat {
	l := make([]api.Rat, n+1)
	for i := range l {
		l[i] = fraction.Plain(rat(s.below(2*high+1)-high, 1+s.below(low)))
	}
	l[n] = fraction.Plain(rat(1+s.below(high), 1+s.below(low)))
	if s.below(2) == 0 {
		l[n] = fraction.Neg(l[n])
	}
	return l
}

// nothings are lists that represent 0.
func nothings() [][]api.Rat {
	all := [][]api.Rat{nil, {}, zeros(), of(0, 0, 0)}
	for _, zero := range zeros() {
		all = append(all, []api.Rat{zero})
	}
	return all
}

// constants are lists that represent constants other than 0.
func constants() [][]api.Rat {
	all := [][]api.Rat{of(1), of(-1), of(7), {rat(2, 3)}, {rat(-6, 4)}, of(5, 0, 0)}
	for _, zero := range zeros() {
		all = append(all, []api.Rat{rat(-4, 6), zero, zero})
	}
	return all
}

// samples are lists of many lengths and shapes: some are 0, others constants,
// and others have zeros at their ends.
func samples() [][]api.Rat {
	all := append(nothings(), constants()...)
	s := noise(1)
	for length := 1; length <= 7; length++ {
		for range 8 {
			all = append(all, s.list(length))
		}
	}
	return append(all, of(0, 1), of(0, 0, 1), of(1, 2, 1), of(-1, 0, 1), of(0, -2, 0, 2, 0), append(of(3, 2), zeros()...))
}

// few are samples of which triples can be gone through.
func few() [][]api.Rat {
	s := noise(2)
	return [][]api.Rat{nil, of(0, 0), of(1), of(3, 0), of(0, 1), of(-2, 0, 2), s.list(2), s.list(3), s.list(4), s.plain(3, 9, 5)}
}

// small are all polynomials of up to n coefficients from -1 to high.
func small(n, high int) [][]api.Rat {
	all, last := [][]api.Rat{nil}, [][]api.Rat{nil}
	for range n {
		var next [][]api.Rat
		for _, f := range last {
			for c := -1; c <= high; c++ {
				next = append(next, append(slices.Clone(f), fraction.Of(c)))
			}
		}
		all, last = append(all, next...), next
	}
	return all
}

func bigLimbs(a []uint32) *big.Int {
	z := new(big.Int)
	for i := len(a) - 1; i >= 0; i-- {
		z.Lsh(z, 32)
		z.Or(z, big.NewInt(int64(a[i])))
	}
	return z
}

func toBig(x api.Rat) *big.Rat {
	num, den := bigLimbs(x.Num.Mag), bigLimbs(x.Den)
	if den.Sign() == 0 {
		return new(big.Rat)
	}
	if x.Num.Neg {
		num.Neg(num)
	}
	return new(big.Rat).SetFrac(num, den)
}

// isPlainRat tells whether x is plain without asking package fraction.
func isPlainRat(x api.Rat) bool {
	ends := func(a []uint32) bool { return len(a) == 0 || a[len(a)-1] != 0 }
	value := toBig(x)
	return ends(x.Num.Mag) && ends(x.Den) && value.Denom().Cmp(bigLimbs(x.Den)) == 0 && x.Num.Neg == (value.Sign() < 0)
}

// isPlain tells whether f is plain without asking package dense.
func isPlain(f []api.Rat) bool {
	for _, c := range f {
		if !isPlainRat(c) {
			return false
		}
	}
	return len(f) == 0 || toBig(f[len(f)-1]).Sign() != 0
}

// polynomial is one as the tests reckon: the last coefficient isn't 0.
type polynomial []*big.Rat

// read makes a list a polynomial.
func read(f []api.Rat) polynomial {
	p := make(polynomial, len(f))
	for i, c := range f {
		p[i] = toBig(c)
	}
	return p.trimmed()
}

func (p polynomial) trimmed() polynomial {
	for len(p) > 0 && p[len(p)-1].Sign() == 0 {
		p = p[:len(p)-1]
	}
	return p
}

// plus returns p and c times q, moved up by so many places.
func (p polynomial) plus(c *big.Rat, q polynomial, place int) polynomial {
	l := make(polynomial, max(len(p), len(q)+place))
	for i := range l {
		l[i] = new(big.Rat)
		if i < len(p) {
			l[i].Set(p[i])
		}
		if i >= place && i-place < len(q) {
			l[i].Add(l[i], new(big.Rat).Mul(c, q[i-place]))
		}
	}
	return l.trimmed()
}

func (p polynomial) times(q polynomial) polynomial {
	var l polynomial
	for i, c := range p {
		l = l.plus(c, q, i)
	}
	return l
}

// monic returns p divided by its last coefficient.
func (p polynomial) monic() polynomial {
	if len(p) == 0 {
		return nil
	}
	return polynomial{}.plus(new(big.Rat).Inv(p[len(p)-1]), p, 0)
}

// rest returns what p leaves when it is divided by a monic q.
func (p polynomial) rest(q polynomial) polynomial {
	for len(p) >= len(q) {
		p = p.plus(new(big.Rat).Neg(p[len(p)-1]), q, len(p)-len(q))
	}
	return p
}

// common returns the monic greatest common divisor.
func (p polynomial) common(q polynomial) polynomial {
	p, q = p.monic(), q.monic()
	for len(q) > 0 {
		p, q = q, p.rest(q).monic()
	}
	return p
}

func (p polynomial) derivative() polynomial {
	l := make(polynomial, max(len(p)-1, 0))
	for i := range l {
		l[i] = new(big.Rat).Mul(p[i+1], big.NewRat(int64(i+1), 1))
	}
	return l
}

func (p polynomial) isSame(q polynomial) bool {
	return slices.EqualFunc(p, q, func(c, d *big.Rat) bool { return c.Cmp(d) == 0 })
}

// isSame tells whether two lists have the same form, not only the same value.
func isSame(f, g []api.Rat) bool {
	return slices.EqualFunc(f, g, isSameRat)
}

func isSameRat(x, y api.Rat) bool {
	return x.Num.Neg == y.Num.Neg && slices.Equal(x.Num.Mag, y.Num.Mag) && slices.Equal(x.Den, y.Den)
}

// expect holds a list against the one plain form of a polynomial.
func expect(t *testing.T, got []api.Rat, want polynomial, what string, args ...any) {
	t.Helper()
	if !isPlain(got) || !read(got).isSame(want) {
		t.Fatalf("%s of %v: %v, not %v", what, args, got, want)
	}
}

// expectList holds a list against a plain one.
func expectList(t *testing.T, got, want []api.Rat, what string, args ...any) {
	t.Helper()
	if !isSame(got, want) {
		t.Fatalf("%s of %v: %v, not %v", what, args, got, want)
	}
}

func TestI1Plain(t *testing.T) {
	for _, f := range samples() {
		got := dense.Plain(f)
		expect(t, got, read(f), "Plain", f)
		expectList(t, dense.Plain(got), got, "Plain", got)
	}
}

func TestI1PlainOfZero(t *testing.T) {
	for _, f := range nothings() {
		if got := dense.Plain(f); len(got) != 0 {
			t.Errorf("Plain of %v: %v", f, got)
		}
	}
	for _, zero := range zeros() {
		f := []api.Rat{zero, rat(6, 4), zero, rat(-2, 4), zero, zero}
		want := []api.Rat{rat(0, 1), rat(3, 2), rat(0, 1), rat(-1, 2)}
		expectList(t, dense.Plain(f), want, "Plain", f)
		expectList(t, dense.Plain(f[:1]), nil, "Plain", f[:1])
	}
}

func TestI2AddSubMul(t *testing.T) {
	one, minus := big.NewRat(1, 1), big.NewRat(-1, 1)
	for _, f := range samples() {
		for _, g := range samples() {
			p, q := read(f), read(g)
			expect(t, dense.Add(f, g), p.plus(one, q, 0), "Add", f, g)
			expect(t, dense.Sub(f, g), p.plus(minus, q, 0), "Sub", f, g)
			expect(t, dense.Mul(f, g), p.times(q), "Mul", f, g)
		}
	}
}

// What is at the end may fall away, one coefficient or all.
func TestI2Cancelled(t *testing.T) {
	f := []api.Rat{rat(1, 2), rat(1, 3), rat(5, 1), rat(-1, 7)}
	for n := range 5 {
		g := slices.Clone(f)
		for i := range n {
			g[i] = fraction.Add(g[i], fraction.Of(i+1))
		}
		want := of(1, 2, 3, 4)[:n]
		expectList(t, dense.Sub(g, f), want, "Sub", g, f)
		expectList(t, dense.Add(g, dense.Scale(f, rat(-1, 1))), want, "Add", g, f)
		expectList(t, dense.Sub(append(g, zeros()...), f), want, "Sub", g, f)
		expectList(t, dense.Sub(g, append(f, zeros()...)), want, "Sub", g, f)
	}
	// Of products inner coefficients may.
	expectList(t, dense.Mul(of(1, 1), of(1, -1)), of(1, 0, -1), "Mul of 1 + x and 1 - x")
	expectList(t, dense.Mul(of(0, 0, 1), of(0, 2)), of(0, 0, 0, 2), "Mul of x^2 and 2*x")
	expectList(t, dense.Mul(of(1, 0, 1), of(1, 0, 1)), of(1, 0, 2, 0, 1), "Mul of x^2 + 1 by itself")
	expectList(t, dense.Mul([]api.Rat{rat(1, 2), rat(2, 3)}, []api.Rat{rat(-2, 1), rat(3, 2)}), []api.Rat{rat(-1, 1), rat(-7, 12), rat(1, 1)}, "Mul")
}

func TestI2OfZero(t *testing.T) {
	for _, f := range samples() {
		for _, zero := range nothings() {
			expect(t, dense.Add(f, zero), read(f), "Add", f, zero)
			expect(t, dense.Add(zero, f), read(f), "Add", zero, f)
			expect(t, dense.Sub(f, zero), read(f), "Sub", f, zero)
			expect(t, dense.Sub(zero, f), read(f).times(polynomial{big.NewRat(-1, 1)}), "Sub", zero, f)
			expect(t, dense.Mul(f, zero), nil, "Mul", f, zero)
			expect(t, dense.Mul(zero, f), nil, "Mul", zero, f)
		}
		expect(t, dense.Sub(f, f), nil, "Sub", f, f)
	}
}

func TestI2Scale(t *testing.T) {
	for _, f := range samples() {
		for _, c := range coefficients() {
			expect(t, dense.Scale(f, c), read(f).times(polynomial{toBig(c)}.trimmed()), "Scale", f, c)
		}
	}
	expectList(t, dense.Scale(of(1, -2, 4), rat(-1, 2)), []api.Rat{rat(-1, 2), rat(1, 1), rat(-2, 1)}, "Scale")
	for _, zero := range zeros() {
		expectList(t, dense.Scale(of(1, 2, 3), zero), nil, "Scale", zero)
	}
}

func TestI5Deriv(t *testing.T) {
	for _, f := range samples() {
		expect(t, dense.Deriv(f), read(f).derivative(), "Deriv", f)
	}
	for _, f := range append(nothings(), constants()...) {
		expectList(t, dense.Deriv(f), nil, "Deriv", f)
	}
	expectList(t, dense.Deriv(of(1, 2, 3)), of(2, 6), "Deriv")
	expectList(t, dense.Deriv([]api.Rat{rat(1, 2), rat(-1, 2), rat(3, 4), rat(1, 3)}), []api.Rat{rat(-1, 2), rat(3, 2), rat(1, 1)}, "Deriv")
	expectList(t, dense.Deriv(of(4, 5, 0, 0)), of(5), "Deriv")
	power := append(make([]api.Rat, 300), fraction.Of(2))
	want := append(slices.Repeat(of(0), 299), fraction.Of(600))
	expectList(t, dense.Deriv(power), want, "Deriv of 2*x^300")
}

// valueOf adds up powers, where Eval does not.
func valueOf(p polynomial, x *big.Rat) *big.Rat {
	sum, power := new(big.Rat), big.NewRat(1, 1)
	for _, c := range p {
		sum.Add(sum, new(big.Rat).Mul(c, power))
		power.Mul(power, x)
	}
	return sum
}

func expectValue(t *testing.T, f []api.Rat, x api.Rat) {
	t.Helper()
	if got := dense.Eval(f, x); !isPlainRat(got) || toBig(got).Cmp(valueOf(read(f), toBig(x))) != 0 {
		t.Fatalf("Eval of %v at %v: %v", f, x, got)
	}
}

func TestI5Eval(t *testing.T) {
	for _, f := range samples() {
		for _, x := range coefficients() {
			expectValue(t, f, x)
		}
	}
	for n := -12; n <= 12; n++ {
		for d := 0; d <= 8; d++ {
			expectValue(t, of(3, -2, 0, 5, 1), rat(n, d))
			expectValue(t, []api.Rat{rat(1, 6), rat(-3, 4), rat(5, 9), rat(0, 1)}, rat(n, d))
		}
	}
	if got := fraction.Text(dense.Eval(of(1, 2, 3), rat(2, 1))); got != "17" {
		t.Errorf("3*x^2 + 2*x + 1 at 2: %s", got)
	}
	if got := fraction.Text(dense.Eval(of(-1, 2, 3), rat(-2, 3))); got != "-1" {
		t.Errorf("3*x^2 + 2*x - 1 at -2/3: %s", got)
	}
	if got := fraction.Text(dense.Eval(of(1, 1), rat(2, 4))); got != "3/2" {
		t.Errorf("x + 1 at 2/4: %s", got)
	}
}

func TestI5EvalOfZeroAndAtZero(t *testing.T) {
	for _, f := range nothings() {
		for _, x := range coefficients() {
			if got := dense.Eval(f, x); !isSameRat(got, rat(0, 1)) {
				t.Errorf("Eval of %v at %v: %v", f, x, got)
			}
		}
	}
	for _, f := range samples() {
		first := rat(0, 1)
		if len(f) > 0 {
			first = fraction.Plain(f[0])
		}
		for _, zero := range zeros() {
			if got := dense.Eval(f, zero); !isSameRat(got, first) {
				t.Errorf("Eval of %v at %v: %v", f, zero, got)
			}
		}
	}
}

// A long polynomial at a fraction has a value with a great denominator.
func TestI5EvalOfManyCoefficients(t *testing.T) {
	s := noise(5)
	for _, x := range []api.Rat{rat(2, 3), rat(-7, 5), rat(1, 1), rat(-1, 1), rat(10, 1)} {
		expectValue(t, s.plain(400, 1000, 1), x)
		expectValue(t, s.plain(150, 9, 9), x)
	}
}
