package several_test

import (
	"slices"
	"testing"

	"primrose/api"
	"primrose/fraction"
	"primrose/several"
)

// roomyLimbs makes a copy with something behind it.
func roomyLimbs(a []uint32) []uint32 {
	return append(slices.Clone(a), 77, 78, 79)[:len(a)]
}

// roomy makes a copy with something behind it, and behind all that belongs to it.
func roomy(p []api.Term) []api.Term {
	l := []api.Term{}
	for _, t := range p {
		c := api.Rat{Num: api.Int{Neg: t.C.Num.Neg, Mag: roomyLimbs(t.C.Num.Mag)}, Den: roomyLimbs(t.C.Den)}
		l = append(l, api.Term{C: c, E: append(slices.Clone(t.E), 7, 8)[:len(t.E)]})
	}
	more := api.Term{C: fraction.Of(9), E: []int{3}}
	return append(l, more, more)[:len(l)]
}

// behind makes a copy with what stands behind p and behind all that belongs to it.
func behind(p []api.Term) []api.Term {
	l := slices.Clone(p[:cap(p)])
	for k, t := range l {
		l[k].C.Num.Mag = slices.Clone(t.C.Num.Mag[:cap(t.C.Num.Mag)])
		l[k].C.Den = slices.Clone(t.C.Den[:cap(t.C.Den)])
		l[k].E = slices.Clone(t.E[:cap(t.E)])
	}
	return l
}

func isSameRat(x, y api.Rat) bool {
	return x.Num.Neg == y.Num.Neg && slices.Equal(x.Num.Mag, y.Num.Mag) && slices.Equal(x.Den, y.Den)
}

func areEqual(p, q []api.Term) bool {
	return slices.EqualFunc(p, q, func(s, t api.Term) bool { return isSameRat(s.C, t.C) && slices.Equal(s.E, t.E) })
}

// allAnswers are the polynomials that all calls answer, with the numbers as terms.
func allAnswers(r api.Ring, p, q []api.Term) [][]api.Term {
	quotient, _, _ := several.Divide(r, p, q)
	primitive, by, _ := several.Primitive(r, p)
	content, l, _ := several.Factor(r, p)
	all := [][]api.Term{quotient, primitive, {{C: by}, {C: content}}}
	for _, x := range l {
		all = append(all, x.P)
	}
	return all
}

func overwriteLimbs(a []uint32) {
	for i := range a {
		a[i] = 0x55555555
	}
	_ = append(a, 0x55555555, 0x55555555)
}

func overwrite(t *api.Term) {
	overwriteLimbs(t.C.Num.Mag)
	overwriteLimbs(t.C.Den)
	for i := range t.E {
		t.E[i] = -5
	}
	_ = append(t.E, -6, -7)
	*t = api.Term{}
}

// expectOwnMemory writes into all that was answered, term by term.
func expectOwnMemory(t *testing.T, r api.Ring, p, q []api.Term) {
	t.Helper()
	p, q = roomy(p), roomy(q)
	keptP, keptQ, names := behind(p), behind(q), slices.Clone(r.Names)
	answers := allAnswers(r, p, q)
	for i, want := range allAnswers(r, p, q) {
		if !areEqual(answers[i], want) {
			t.Fatalf("answer %d for %v was changed through another one, or is another one now", i, p)
		}
		for k := range answers[i] {
			overwrite(&answers[i][k])
			if !areEqual(answers[i][k+1:], want[k+1:]) {
				t.Fatalf("answer %d for %v: term %d was changed through another one", i, p, k)
			}
		}
		_ = append(answers[i], api.Term{}, api.Term{})
		if !areEqual(behind(p), keptP) || !areEqual(behind(q), keptQ) || !slices.Equal(r.Names, names) {
			t.Fatalf("answer %d for %v: an argument was changed", i, p)
		}
	}
}

// Arguments keep their elements, and so does the memory behind them (R3); each
// list of an answer has memory of its own.
func TestMemory(t *testing.T) {
	s := noise(15)
	for k := range 120 {
		r := s.aRing(1 + k%4)
		n := len(r.Names)
		p, q := s.linear(n, 2), scaled(s.linear(n, 2), s.fraction(1+k))
		expectOwnMemory(t, r, s.loose(r, times(p, q)), s.loose(r, q))
		expectOwnMemory(t, r, times(p, q).terms(r), q.terms(r))
		expectOwnMemory(t, r, times(q, q).terms(r), p.terms(r))
		expectOwnMemory(t, r, p.terms(r), p.terms(r))
		expectOwnMemory(t, r, primitive(r, p).terms(r), constant(rat(1, 1)).terms(r))
		expectOwnMemory(t, r, q.terms(r), constant(s.fraction(40)).terms(r))
	}
	for _, r := range rings(2) {
		for _, p := range []string{"5", "-2/3", "1", "x", "x^2*y", "x^2 - y^2", "x^2 + y^2", "1/2*x^4 - 1/2*y^4", "x^16", "x^13", "0"} {
			for _, q := range []string{"1", "x", "x - y", "0"} {
				expectOwnMemory(t, r, parsed(t, r, p), parsed(t, r, q))
			}
		}
		for _, zero := range zeros(2) {
			expectOwnMemory(t, r, zero, parsed(t, r, "x"))
			expectOwnMemory(t, r, parsed(t, r, "x"), zero)
		}
		for _, wrong := range wrongPolynomials(2) {
			expectOwnMemory(t, r, wrong, parsed(t, r, "x"))
		}
	}
}

// The terms may share their limbs and their exponents, and p and q may be parts of
// one list.
func TestOverlappingArguments(t *testing.T) {
	r := lex(2)
	mag, e := []uint32{6, 0}, []int{2, 0, 2}
	x := api.Term{C: api.Rat{Num: api.Int{Mag: mag}, Den: mag[:1]}, E: e[:2]}                 // x^2
	y := api.Term{C: api.Rat{Num: api.Int{Neg: true, Mag: mag[:1]}, Den: mag[:1]}, E: e[1:3]} // -y^2
	l := []api.Term{y, x, x, y}
	p, q := sumOf(l), sumOf(l[:2])
	expectQuotient(t, r, l, l[:2], constant(rat(2, 1)))
	expectQuotient(t, r, l[:2], l, constant(rat(1, 2)))
	expectQuotient(t, r, l, l, constant(rat(1, 1)))
	expectQuotient(t, r, l[:2], l[2:], constant(rat(1, 1)))
	expectQuotient(t, r, l[1:3], l[1:2], constant(rat(2, 1)))
	expectPrimitive(t, r, l, q, rat(2, 1))
	expectPrimitive(t, r, l[3:], power(1, 2), rat(-1, 1))
	expectFactors(t, r, l, rat(2, 1), together(r, []known{{plus(power(0, 1), power(1, 1)), 1}, {plus(power(0, 1), scaled(power(1, 1), rat(-1, 1))), 1}}))
	if !isSame(sumOf(l), p) || mag[0] != 6 || mag[1] != 0 || !slices.Equal(e, []int{2, 0, 2}) {
		t.Errorf("arguments were changed: %v, %v, %v", l, mag, e)
	}
}
