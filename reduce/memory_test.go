package reduce_test

import (
	"slices"
	"testing"

	"primrose/api"
	"primrose/fraction"
	"primrose/reduce"
)

// roomyLimbs makes a copy with something behind it.
func roomyLimbs(a []uint32) []uint32 {
	return append(slices.Clone(a), 77, 78, 79)[:len(a)]
}

// roomy makes a copy with something behind it, and behind all that belongs to it.
func roomy(p []api.Term) []api.Term {
	l := []api.Term{}
	for _, t := range p {
		c := api.Rat{Num: api.Int{Neg: t.C.Num.Neg, Mag: roomyLimbs(t.C.Num.Mag)}, Den: roomyLimbs(t.C.Den)}
		l = append(l, api.Term{C: c, E: append(slices.Clone(t.E), 7, 8)[:len(t.E)]})
	}
	more := api.Term{C: fraction.Of(9), E: []int{3}}
	return append(l, more, more)[:len(l)]
}

// roomyList makes a copy of all polynomials, with something behind each and behind
// the list.
func roomyList(l [][]api.Term) [][]api.Term {
	all := [][]api.Term{}
	for _, p := range l {
		all = append(all, roomy(p))
	}
	return append(all, roomy(nil), nil)[:len(l)]
}

// behind makes a copy with what stands behind p and behind all that belongs to it.
func behind(p []api.Term) []api.Term {
	l := slices.Clone(p[:cap(p)])
	for k, t := range l {
		l[k].C.Num.Mag = slices.Clone(t.C.Num.Mag[:cap(t.C.Num.Mag)])
		l[k].C.Den = slices.Clone(t.C.Den[:cap(t.C.Den)])
		l[k].E = slices.Clone(t.E[:cap(t.E)])
	}
	return l
}

func behindList(l [][]api.Term) [][]api.Term {
	all := slices.Clone(l[:cap(l)])
	for i, p := range all {
		all[i] = behind(p)
	}
	return all
}

func isSameRat(x, y api.Rat) bool {
	return x.Num.Neg == y.Num.Neg && slices.Equal(x.Num.Mag, y.Num.Mag) && slices.Equal(x.Den, y.Den)
}

func areEqual(p, q []api.Term) bool {
	return slices.EqualFunc(p, q, func(s, t api.Term) bool { return isSameRat(s.C, t.C) && slices.Equal(s.E, t.E) })
}

func areEqualLists(l, m [][]api.Term) bool {
	return slices.EqualFunc(l, m, areEqual)
}

// allAnswers are the polynomials that all calls answer.
func allAnswers(r api.Ring, p []api.Term, l [][]api.Term) [][]api.Term {
	q, rest, _, _ := reduce.DivMod(r, p, l, 999)
	other, _, _ := reduce.Rem(r, p, l, 999)
	all := append(slices.Clone(q), rest, other)
	for _, f := range l {
		s, _ := reduce.Spoly(r, p, f)
		all = append(all, s)
	}
	return all
}

func overwriteLimbs(a []uint32) {
	for i := range a {
		a[i] = 0x55555555
	}
	_ = append(a, 0x55555555, 0x55555555)
}

func overwrite(t *api.Term) {
	overwriteLimbs(t.C.Num.Mag)
	overwriteLimbs(t.C.Den)
	for i := range t.E {
		t.E[i] = -5
	}
	_ = append(t.E, -6, -7)
	*t = api.Term{}
}

// expectOwnMemory writes into all that was answered, term by term.
func expectOwnMemory(t *testing.T, r api.Ring, p []api.Term, l [][]api.Term) {
	t.Helper()
	p, l = roomy(p), roomyList(l)
	keptP, keptL, names := behind(p), behindList(l), slices.Clone(r.Names)
	answers := allAnswers(r, p, l)
	for i, want := range allAnswers(r, p, l) {
		if !areEqual(answers[i], want) {
			t.Fatalf("answer %d for %v was changed through another one, or is another one now", i, p)
		}
		for k := range answers[i] {
			overwriteLimbs(answers[i][k].C.Num.Mag)
			if !slices.Equal(answers[i][k].C.Den, want[k].C.Den) {
				t.Fatalf("answer %d for %v: the denominator of term %d was changed through the numerator", i, p, k)
			}
			overwrite(&answers[i][k])
			if !areEqual(answers[i][k+1:], want[k+1:]) {
				t.Fatalf("answer %d for %v: term %d was changed through another one", i, p, k)
			}
		}
		_ = append(answers[i], api.Term{}, api.Term{})
		if !areEqual(behind(p), keptP) || !areEqualLists(behindList(l), keptL) || !slices.Equal(r.Names, names) {
			t.Fatalf("answer %d for %v: an argument was changed", i, p)
		}
	}
}

// Arguments keep their elements, and so does the memory behind them (R3); each
// list of an answer has memory of its own, and no answer hangs on an earlier one
// (R4).
func TestMemory(t *testing.T) {
	s := noise(15)
	for _, r := range allRings() {
		n := len(r.Names)
		for k := range 12 {
			l := s.samples(k%5, n, 4, 3, 1+5*k)
			p := s.multiple(n, l, 3)
			expectOwnMemory(t, r, s.anyForm(r, p), s.anyForms(r, l))
			expectOwnMemory(t, r, p.terms(r), termsOf(r, l))
			expectOwnMemory(t, r, s.loose(r, p), append(s.anyForms(r, l), constant(s.fraction(9)).terms(r)))
		}
	}
	for _, r := range rings(2) {
		for _, p := range []string{"0", "1", "x", "-2/3*x^2*y", "x^2*y + x*y^2 + y^2", "x^65536 + 1"} {
			for _, l := range []string{"", "0", "1", "x", "x*y - 1; y^2 - 1", "0; x^2 - y; 0; 2*y", "y^65536*x + 1; x^65536 - y"} {
				expectOwnMemory(t, r, parsed(t, r, p), parsedList(t, r, l))
			}
			for _, wrong := range wrongPolynomials(2) {
				expectOwnMemory(t, r, parsed(t, r, p), [][]api.Term{nil, wrong})
				expectOwnMemory(t, r, wrong, parsedList(t, r, "x; y"))
			}
		}
		for _, zero := range zeros(2) {
			expectOwnMemory(t, r, zero, parsedList(t, r, "x; y"))
			expectOwnMemory(t, r, parsed(t, r, "x"), [][]api.Term{zero, zero})
		}
	}
}

// Lists whose terms share their limbs and their exponents, and are parts of one
// list.
func TestOverlappingArguments(t *testing.T) {
	r := lex(2)
	mag, e := []uint32{6, 0}, []int{2, 0, 2}
	x := api.Term{C: api.Rat{Num: api.Int{Mag: mag}, Den: mag[:1]}, E: e[:2]}                 // x^2
	y := api.Term{C: api.Rat{Num: api.Int{Neg: true, Mag: mag[:1]}, Den: mag[:1]}, E: e[1:3]} // -y^2
	all := []api.Term{y, x, x, y}                                                             // 2*x^2 - 2*y^2
	l := [][]api.Term{all[3:], all[:2], all}
	expectAnswer(t, r, all, l[2:], 1, answer{[]sum{constant(rat(1, 1))}, nil, 0, api.OK})
	expectAnswer(t, r, all, l[1:], 1, answer{[]sum{constant(rat(2, 1)), {}}, nil, 0, api.OK})
	expectAnswer(t, r, all, l, 2, answer{[]sum{{}, constant(rat(2, 1)), {}}, nil, 1, api.OK})
	expectAnswer(t, r, all, l[:1], 1, answer{[]sum{constant(rat(2, 1))}, times(power(0, 2), constant(rat(2, 1))), 0, api.OK})
	expectSpoly(t, r, all, all[1:3], minus(sum{}, power(1, 2)))
	expectSpoly(t, r, all, all[3:], minus(sum{}, power(1, 4)))
	if mag[0] != 6 || mag[1] != 0 || !slices.Equal(e, []int{2, 0, 2}) {
		t.Errorf("arguments were changed: %v, %v", mag, e)
	}
}
