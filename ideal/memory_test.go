package ideal_test

import (
	"slices"
	"testing"

	"primrose/api"
	"primrose/fraction"
)

// roomyLimbs makes a copy with something behind it.
func roomyLimbs(a []uint32) []uint32 {
	return append(slices.Clone(a), 77, 78, 79)[:len(a)]
}

// roomy makes a copy with something behind it, and behind all that belongs to it.
func roomy(p []api.Term) []api.Term {
	l := []api.Term{}
	for _, t := range p {
		c := api.Rat{Num: api.Int{Neg: t.C.Num.Neg, Mag: roomyLimbs(t.C.Num.Mag)}, Den: roomyLimbs(t.C.Den)}
		l = append(l, api.Term{C: c, E: append(slices.Clone(t.E), 7, 8)[:len(t.E)]})
	}
	more := api.Term{C: fraction.Of(9), E: []int{3}}
	return append(l, more, more)[:len(l)]
}

// roomyList makes a copy of all polynomials, with something behind each and behind
// the list.
func roomyList(l [][]api.Term) [][]api.Term {
	all := [][]api.Term{}
	for _, p := range l {
		all = append(all, roomy(p))
	}
	return append(all, roomy(nil), nil)[:len(l)]
}

// behind makes a copy with what stands behind p and behind all that belongs to it.
func behind(p []api.Term) []api.Term {
	l := slices.Clone(p[:cap(p)])
	for k, t := range l {
		l[k].C.Num.Mag = slices.Clone(t.C.Num.Mag[:cap(t.C.Num.Mag)])
		l[k].C.Den = slices.Clone(t.C.Den[:cap(t.C.Den)])
		l[k].E = slices.Clone(t.E[:cap(t.E)])
	}
	return l
}

func behindList(l [][]api.Term) [][]api.Term {
	all := slices.Clone(l[:cap(l)])
	for i, p := range all {
		all[i] = behind(p)
	}
	return all
}

func isSameRat(x, y api.Rat) bool {
	return x.Num.Neg == y.Num.Neg && slices.Equal(x.Num.Mag, y.Num.Mag) && slices.Equal(x.Den, y.Den)
}

func areEqual(p, q []api.Term) bool {
	return slices.EqualFunc(p, q, func(s, t api.Term) bool { return isSameRat(s.C, t.C) && slices.Equal(s.E, t.E) })
}

func areEqualLists(l, m [][]api.Term) bool {
	return slices.EqualFunc(l, m, areEqual)
}

func overwriteLimbs(a []uint32) {
	for i := range a {
		a[i] = 0x55555555
	}
	_ = append(a, 0x55555555, 0x55555555)
}

func overwrite(t *api.Term) {
	overwriteLimbs(t.C.Num.Mag)
	overwriteLimbs(t.C.Den)
	for i := range t.E {
		t.E[i] = -5
	}
	_ = append(t.E, -6, -7)
	*t = api.Term{}
}

// expectOwnMemory writes into all that was answered, term by term.
func expectOwnMemory(t *testing.T, q question, fuel int) {
	t.Helper()
	q.f, q.h = roomyList(q.f), roomyList(q.h)
	q.r.Names = append(slices.Clone(q.r.Names), "behind", "them")[:len(q.r.Names)]
	f, h, names := behindList(q.f), behindList(q.h), slices.Clone(q.r.Names[:cap(q.r.Names)])
	a, want := q.ask(fuel), q.ask(fuel)
	if !areEqualLists(a.g, want.g) || a.is != want.is || a.s != want.s || a.left != want.left || a.e != want.e {
		t.Fatalf("%v answers another time %v, not %v", q, want, a)
	}
	for i := range a.g {
		for k := range a.g[i] {
			overwriteLimbs(a.g[i][k].C.Num.Mag)
			if !slices.Equal(a.g[i][k].C.Den, want.g[i][k].C.Den) {
				t.Fatalf("element %d for %v: the denominator of term %d was changed through the numerator", i, q, k)
			}
			overwrite(&a.g[i][k])
			if !areEqual(a.g[i][k+1:], want.g[i][k+1:]) || !areEqualLists(a.g[i+1:], want.g[i+1:]) {
				t.Fatalf("element %d for %v: term %d was changed with another one", i, q, k)
			}
		}
		_ = append(a.g[i], api.Term{}, api.Term{})
		if !areEqualLists(a.g[i+1:], want.g[i+1:]) {
			t.Fatalf("element %d for %v: another one stands behind it", i, q)
		}
	}
	_ = append(a.g, nil, nil)
	if !areEqualLists(behindList(q.f), f) || !areEqualLists(behindList(q.h), h) || !slices.Equal(q.r.Names[:cap(q.r.Names)], names) {
		t.Fatalf("for %v an argument was changed", q)
	}
	if again := q.ask(fuel); !areEqualLists(again.g, want.g) || again.is != want.is || again.s != want.s || again.left != want.left || again.e != want.e {
		t.Fatalf("%v answers %v now, not %v", q, again, want)
	}
}

// expectOwnMemoryOfAll does so for each call.
func expectOwnMemoryOfAll(t *testing.T, r api.Ring, f, h [][]api.Term, k, fuel int) {
	t.Helper()
	for _, call := range calls() {
		switch {
		case !hasOne(call):
			expectOwnMemory(t, question{call, r, f, h, k}, fuel)
		case len(h) > 0:
			expectOwnMemory(t, question{call, r, f, h[:1], k}, fuel)
		}
	}
}

// Arguments keep their elements, and so does the memory behind them (R3); each list
// of an answer has memory of its own, and no answer hangs on an earlier one (R4).
func TestMemory(t *testing.T) {
	t.Parallel()
	s := noise(15)
	for _, r := range allRings() {
		n := len(r.Names)
		for k := range 7 {
			f, h := s.samples(k%4, n, 3, 3, 1+5*k), s.samples(k%3, n, 2, 2, 1+3*k)
			expectOwnMemoryOfAll(t, r, s.anyForms(r, f), s.anyForms(r, h), s.below(n+1), 300)
			expectOwnMemoryOfAll(t, r, termsOf(r, f), termsOf(r, h), s.below(n+1), 300)
		}
	}
	for _, r := range rings(2) {
		lists := []string{"", "0", "1", "x", "-2/3*x^2*y", "x; y", "x; 3*x; 2; 5", "0; x^2 - y; 0; 2*y", "y^65536*x + 1; x^65536 - y"}
		for _, f := range lists {
			for _, h := range lists {
				for k := range 2 {
					expectOwnMemoryOfAll(t, r, parsedList(t, r, f), parsedList(t, r, h), k, 100)
				}
			}
			for _, wrong := range append(wrongPolynomials(2), zeros(2)...) {
				expectOwnMemoryOfAll(t, r, append(parsedList(t, r, f), wrong), [][]api.Term{wrong}, 1, 100)
			}
		}
	}
}

// The same list as f and as h, and lists whose terms share their limbs and their
// exponents and are parts of one list.
func TestOverlappingArguments(t *testing.T) {
	r := lex(2)
	mag, e := []uint32{6, 0}, []int{2, 0, 2}
	x := api.Term{C: api.Rat{Num: api.Int{Mag: mag}, Den: mag[:1]}, E: e[:2]}                 // x^2
	y := api.Term{C: api.Rat{Num: api.Int{Neg: true, Mag: mag[:1]}, Den: mag[:1]}, E: e[1:3]} // -y^2
	all := []api.Term{y, x, x, y}                                                             // 2*x^2 - 2*y^2
	lists := [][]api.Term{all, all[:1], all[1:2], all[:2]}
	for _, call := range calls() {
		f, h := lists, lists[1:3]
		if hasOne(call) {
			h = lists[1:2]
		}
		expectWords(t, question{call, r, f, h, 1}, 1000)
		expectWords(t, question{call, r, f[2:], h, 1}, 1000)
		if !hasOne(call) {
			expectWords(t, question{call, r, h, h, 1}, 1000)
		}
	}
	if mag[0] != 6 || mag[1] != 0 || !slices.Equal(e, []int{2, 0, 2}) {
		t.Errorf("arguments were changed: %v, %v", mag, e)
	}
}
