package dense_test

import (
	"math/big"
	"slices"
	"testing"

	"primrose/api"
	"primrose/dense"
	"primrose/fraction"
)

// expectDivision holds the quotient and the rest against what defines them: only
// one pair is as I3 says.
func expectDivision(t *testing.T, f, g []api.Rat) {
	t.Helper()
	q, r, e := dense.DivMod(f, g)
	if len(read(g)) == 0 {
		if e != api.ErrZero || len(q) != 0 || len(r) != 0 {
			t.Fatalf("DivMod of %v by %v: %v, %v, error %d", f, g, q, r, e)
		}
		return
	}
	sum := read(q).times(read(g)).plus(big.NewRat(1, 1), read(r), 0)
	if e != api.OK || !isPlain(q) || !isPlain(r) || len(r) >= len(read(g)) || !sum.isSame(read(f)) {
		t.Fatalf("DivMod of %v by %v: %v, %v, error %d", f, g, q, r, e)
	}
}

func TestI3DivMod(t *testing.T) {
	for _, f := range samples() {
		for _, g := range samples() {
			expectDivision(t, f, g)
		}
	}
}

func TestI3SmallPolynomials(t *testing.T) {
	all := small(4, 1)
	for _, f := range all {
		for _, g := range all {
			expectDivision(t, f, g)
		}
	}
}

// Divisors of all degrees, up to one more than that of what is divided.
func TestI3Degrees(t *testing.T) {
	s := noise(3)
	for n := range 12 {
		for m := range n + 2 {
			expectDivision(t, s.plain(n, 50, 1), s.plain(m, 50, 1))
			expectDivision(t, s.plain(n, 9, 9), s.plain(m, 9, 9))
		}
	}
	expectDivision(t, s.plain(60, 99, 1), s.plain(25, 99, 1))
}

func TestI3Examples(t *testing.T) {
	for _, x := range []struct{ f, g, q, r []api.Rat }{
		{of(-1, 0, 1), of(-1, 1), of(1, 1), nil},
		{of(5, 1), of(1, 0, 2), nil, of(5, 1)},
		{of(5, 1), of(1, 2), []api.Rat{rat(1, 2)}, []api.Rat{rat(9, 2)}},
		{of(1, 0, 0, 1), of(1, 0, 1), of(0, 1), of(1, -1)},
		{of(1, 0, 0, 0, 0, 1), of(0, 0, 1), of(0, 0, 0, 1), of(1)},
		{of(4, 6), of(-2), of(-2, -3), nil},
		{of(4, 6), []api.Rat{rat(2, 3), {}, rat(5, 0)}, of(6, 9), nil},
		{of(7), of(3), []api.Rat{rat(7, 3)}, nil},
		{of(7), of(0, 3), nil, of(7)},
		{nil, of(0, 3), nil, nil},
		{of(0, 0), of(3), nil, nil},
		{[]api.Rat{rat(6, 4), rat(2, 2), rat(3, 0)}, of(1, 0, 1), nil, []api.Rat{rat(3, 2), rat(1, 1)}},
	} {
		if q, r, e := dense.DivMod(x.f, x.g); e != api.OK || !isSame(q, x.q) || !isSame(r, x.r) {
			t.Errorf("DivMod of %v by %v: %v, %v, error %d", x.f, x.g, q, r, e)
		}
	}
}

func TestI3ByZero(t *testing.T) {
	for _, f := range samples() {
		for _, g := range nothings() {
			expectDivision(t, f, g)
		}
	}
}

// Multiples leave no rest.
func TestI3Multiples(t *testing.T) {
	for _, f := range samples() {
		for _, g := range samples() {
			if len(read(g)) == 0 {
				continue
			}
			q, r, e := dense.DivMod(dense.Mul(f, g), g)
			if e != api.OK || len(r) != 0 {
				t.Fatalf("%v times %v, divided: the rest %v, error %d", f, g, r, e)
			}
			expect(t, q, read(f), "DivMod of f times g", f, g)
		}
	}
}

func TestI4Monic(t *testing.T) {
	for _, f := range samples() {
		expect(t, dense.Monic(f), read(f).monic(), "Monic", f)
	}
	for _, f := range nothings() {
		expectList(t, dense.Monic(f), nil, "Monic", f)
	}
	for _, f := range constants() {
		expectList(t, dense.Monic(f), of(1), "Monic", f)
	}
	expectList(t, dense.Monic(of(3, 0, -2)), []api.Rat{rat(-3, 2), rat(0, 1), rat(1, 1)}, "Monic")
	expectList(t, dense.Monic([]api.Rat{rat(6, 4), rat(1, 3), rat(0, 5)}), []api.Rat{rat(9, 2), rat(1, 1)}, "Monic")
}

func TestI4Gcd(t *testing.T) {
	for _, f := range samples() {
		for _, g := range samples() {
			expect(t, dense.Gcd(f, g), read(f).common(read(g)), "Gcd", f, g)
		}
	}
}

func TestI4SmallPolynomials(t *testing.T) {
	all := small(4, 1)
	for _, f := range all {
		for _, g := range all {
			expect(t, dense.Gcd(f, g), read(f).common(read(g)), "Gcd", f, g)
		}
	}
}

func TestI4GcdOfZeroAndConstants(t *testing.T) {
	for _, zero := range nothings() {
		for _, f := range samples() {
			expect(t, dense.Gcd(f, zero), read(f).monic(), "Gcd", f, zero)
			expect(t, dense.Gcd(zero, f), read(f).monic(), "Gcd", zero, f)
		}
		for _, other := range nothings() {
			expectList(t, dense.Gcd(zero, other), nil, "Gcd", zero, other)
		}
	}
	for _, c := range constants() {
		for _, f := range samples() {
			expectList(t, dense.Gcd(f, c), of(1), "Gcd", f, c)
			expectList(t, dense.Gcd(c, f), of(1), "Gcd", c, f)
		}
	}
}

func TestI4GcdExamples(t *testing.T) {
	for _, x := range []struct{ f, g, want []api.Rat }{
		{of(-1, 0, 1), of(2, 2), of(1, 1)},
		{of(0), of(0, 3), of(0, 1)},
		{of(1, 0, 1), of(-1, 0, 1), of(1)},
		{of(0, 0, 4), of(0, 0, 0, 6), of(0, 0, 1)},
		{of(-1, 0, 0, 0, 0, 0, 1), of(-1, 0, 0, 0, 1), of(-1, 0, 1)},
		{of(1, 3, 2), of(1, 5, 6), []api.Rat{rat(1, 2), rat(1, 1)}},
		{[]api.Rat{rat(1, 2), rat(3, 2), rat(1, 1)}, []api.Rat{rat(1, 6), rat(5, 6), rat(1, 1)}, []api.Rat{rat(1, 2), rat(1, 1)}},
		// Knuth's example of coefficients that grow.
		{of(-5, 2, 8, -3, -3, 0, 1, 0, 1), of(21, -9, -4, 0, 5, 0, 3), of(1)},
	} {
		expectList(t, dense.Gcd(x.f, x.g), x.want, "Gcd", x.f, x.g)
		expectList(t, dense.Gcd(x.g, x.f), x.want, "Gcd", x.g, x.f)
	}
}

// Polynomials that are made of a common factor and of such without one: the
// numbers at which these are 0 differ.
func TestI4GcdOfMultiples(t *testing.T) {
	s := noise(4)
	for n := range 9 {
		f, g := of(3), []api.Rat{rat(-1, 7)}
		for i := range n {
			f = dense.Mul(f, []api.Rat{rat(-2*i, 3), rat(1+i, 1)})
			g = dense.Mul(g, []api.Rat{rat(2*i+1, 2), rat(5, 1+i)})
		}
		expectList(t, dense.Gcd(f, g), of(1), "Gcd", f, g)
		for m := range 6 {
			h := s.plain(m, 99, 20)
			expect(t, dense.Gcd(dense.Mul(f, h), dense.Mul(g, h)), read(h).monic(), "Gcd of multiples", f, g, h)
			expect(t, dense.Gcd(h, dense.Mul(f, h)), read(h).monic(), "Gcd of one and its multiple", h, f)
			expect(t, dense.Gcd(dense.Mul(g, h), h), read(h).monic(), "Gcd of one's multiple and it", g, h)
		}
	}
}

// Of degrees that are far apart, and of long polynomials.
func TestI4GcdOfManyCoefficients(t *testing.T) {
	s := noise(6)
	f, g, h := s.plain(40, 99, 1), s.plain(40, 99, 1), s.plain(10, 99, 1)
	expectList(t, dense.Gcd(f, g), of(1), "Gcd of two of the degree 40")
	expect(t, dense.Gcd(dense.Mul(f, h), dense.Mul(h, g)), read(h).monic(), "Gcd of two of the degree 50")
	f = dense.Mul(s.plain(30, 9, 9), h)
	expect(t, dense.Gcd(f, dense.Deriv(f)), read(f).common(read(f).derivative()), "Gcd of one and its derivative")
	long := append(append(of(-1), make([]api.Rat, 359)...), fraction.Of(1))
	short := append(append(of(-1), make([]api.Rat, 14)...), fraction.Of(1))
	expect(t, dense.Gcd(long, short), read(short), "Gcd of x^360 - 1 and x^15 - 1")
	expect(t, dense.Gcd(short, long), read(short), "Gcd of x^15 - 1 and x^360 - 1")
	expectList(t, dense.Gcd(long, of(1, 2)), of(1), "Gcd of x^360 - 1 and 2*x + 1")
	power := append(make([]api.Rat, 300), fraction.Of(6))
	expectList(t, dense.Gcd(power, of(0, 0, 0, 5)), of(0, 0, 0, 1), "Gcd of 6*x^300 and 5*x^3")
}

// Polynomials form a ring, with the constants as its units.
func TestI8Ring(t *testing.T) {
	for _, f := range few() {
		for _, g := range few() {
			expectList(t, dense.Add(f, g), dense.Add(g, f), "Add", f, g)
			expectList(t, dense.Mul(f, g), dense.Mul(g, f), "Mul", f, g)
			expectList(t, dense.Add(dense.Sub(f, g), g), dense.Plain(f), "Add of Sub", f, g)
			for _, h := range few() {
				expectList(t, dense.Add(dense.Add(f, g), h), dense.Add(f, dense.Add(g, h)), "Add", f, g, h)
				expectList(t, dense.Mul(dense.Mul(f, g), h), dense.Mul(f, dense.Mul(g, h)), "Mul", f, g, h)
				expectList(t, dense.Mul(dense.Add(f, g), h), dense.Add(dense.Mul(f, h), dense.Mul(g, h)), "Mul of Add", f, g, h)
			}
		}
		expectList(t, dense.Mul(f, of(1)), dense.Plain(f), "Mul by 1", f)
		expectList(t, dense.Scale(f, rat(-3, 7)), dense.Mul(f, []api.Rat{rat(-3, 7)}), "Scale", f)
	}
}

// divides tells whether g divides f.
func divides(g, f []api.Rat) bool {
	if len(read(g)) == 0 {
		return len(read(f)) == 0
	}
	_, r, e := dense.DivMod(f, g)
	return e == api.OK && len(r) == 0
}

// The greatest common divisor divides both, and each common factor divides it.
func TestI8Divisors(t *testing.T) {
	all := small(4, 1)
	for i, f := range all {
		for _, g := range all[i%7*10 : i%7*10+10] {
			common := dense.Gcd(f, g)
			if !divides(common, f) || !divides(common, g) {
				t.Fatalf("the Gcd %v of %v and %v does not divide them", common, f, g)
			}
			for _, h := range all[:40] {
				if divides(h, f) && divides(h, g) && !divides(h, common) {
					t.Fatalf("the Gcd %v of %v and %v: %v does not divide it", common, f, g, h)
				}
			}
		}
	}
}

// Values and derivatives of sums and products are made of those of their parts.
func TestI8Rules(t *testing.T) {
	for _, f := range samples() {
		for _, g := range few() {
			slopes := dense.Add(dense.Mul(dense.Deriv(f), g), dense.Mul(f, dense.Deriv(g)))
			expectList(t, dense.Deriv(dense.Mul(f, g)), slopes, "Deriv of Mul", f, g)
			expectList(t, dense.Deriv(dense.Add(f, g)), dense.Add(dense.Deriv(f), dense.Deriv(g)), "Deriv of Add", f, g)
			for _, x := range []api.Rat{{}, rat(1, 1), rat(-2, 3), rat(9, 6)} {
				a, b := dense.Eval(f, x), dense.Eval(g, x)
				if !isSameRat(dense.Eval(dense.Mul(f, g), x), fraction.Mul(a, b)) || !isSameRat(dense.Eval(dense.Sub(f, g), x), fraction.Sub(a, b)) {
					t.Fatalf("%v and %v at %v: their product or difference has another value", f, g, x)
				}
			}
		}
	}
}

// roomy makes a copy with something behind each list.
func roomy(f []api.Rat) []api.Rat {
	l := append(copied(f), fraction.Of(77), fraction.Of(78))
	for i := range l {
		l[i].Num.Mag = append(l[i].Num.Mag, 55)[:len(l[i].Num.Mag)]
		l[i].Den = append(l[i].Den, 44)[:len(l[i].Den)]
	}
	return l[:len(f)]
}

// copied makes a copy in memory of its own.
func copied(f []api.Rat) []api.Rat {
	l := slices.Clone(f)
	for i, c := range f {
		l[i].Num.Mag, l[i].Den = slices.Clone(c.Num.Mag), slices.Clone(c.Den)
	}
	return l
}

// behind makes a copy with what stands behind each list too.
func behind(f []api.Rat) []api.Rat {
	l := slices.Clone(f[:cap(f)])
	for i, c := range l {
		l[i].Num.Mag, l[i].Den = slices.Clone(c.Num.Mag[:cap(c.Num.Mag)]), slices.Clone(c.Den[:cap(c.Den)])
	}
	return l
}

// allAnswers are the lists that the calls answer for f, g and c.
func allAnswers(f, g []api.Rat, c api.Rat) [][]api.Rat {
	q, r, _ := dense.DivMod(f, g)
	none, short, _ := dense.DivMod(g, append(copied(f), g...))
	all := [][]api.Rat{
		dense.Plain(f), dense.Add(f, g), dense.Add(f, nil), dense.Add(nil, g), dense.Sub(f, g), dense.Sub(nil, g), dense.Sub(f, f),
		dense.Scale(f, c), dense.Scale(f, fraction.Of(1)), dense.Mul(f, g), dense.Mul(f, f), dense.Mul(of(1), g), q, r, none, short,
		dense.Monic(f), dense.Gcd(f, g), dense.Gcd(f, nil), dense.Gcd(nil, g), dense.Gcd(f, f), dense.Deriv(f), dense.Deriv(g),
		{dense.Eval(f, c), dense.Eval(g, api.Rat{}), dense.Eval(f, fraction.Of(1)), dense.Eval(of(0, 1), c)}, dense.Radical(f), dense.Radical(g),
	}
	all = append(all, dense.Squares(f)...)
	return append(all, dense.Squares(g)...)
}

// overwrite writes into a list, and behind it where an append would.
func overwrite(list []uint32) {
	for i := range list {
		list[i] = 5
	}
	_ = append(list, 5)
}

func expectOwnMemory(t *testing.T, f, g []api.Rat, c api.Rat) {
	t.Helper()
	keptF, keptG, keptC := behind(f), behind(g), behind([]api.Rat{c})
	answers := allAnswers(f, g, c)
	for i, want := range allAnswers(f, g, c) {
		if !isSame(answers[i], want) {
			t.Errorf("answer %d was changed through another one", i)
		}
		for k := range answers[i] {
			if !isSame(answers[i][k:], want[k:]) {
				t.Errorf("answer %d: its lists share memory", i)
			}
			overwrite(answers[i][k].Num.Mag)
			overwrite(answers[i][k].Den)
		}
		answers[i] = append(answers[i], api.Rat{})
		clear(answers[i])
		if !isSame(behind(f), keptF) || !isSame(behind(g), keptG) || !isSame(behind([]api.Rat{c}), keptC) {
			t.Fatalf("answer %d: an argument was changed", i)
		}
	}
}

// Arguments keep their coefficients, and so does the memory behind them (R3);
// each list of an answer has memory of its own; what is done to it changes no
// other list and no later answer (R4).
func TestMemory(t *testing.T) {
	s := noise(7)
	c := roomy([]api.Rat{rat(-6, 4)})[0]
	for n := range 7 {
		f, g := s.list(n), s.plain(n%3, 9, 4)
		expectOwnMemory(t, roomy(f), roomy(g), c)
		expectOwnMemory(t, roomy(g), roomy(f), c)
		expectOwnMemory(t, roomy(dense.Plain(f)), roomy(dense.Plain(g)), c)
		expectOwnMemory(t, roomy(dense.Mul(g, dense.Mul(g, f))), roomy(g), c)
	}
	expectOwnMemory(t, roomy(of(1, 2, 1)), roomy(of(1, 1)), fraction.Of(1))
	expectOwnMemory(t, roomy(of(0, 0, 0, 1)), roomy(of(0, 1)), fraction.Of(1))
	expectOwnMemory(t, roomy(of(4, 6, 2)), roomy(of(0, 0)), fraction.Of(0))
}
