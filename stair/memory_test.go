package stair_test

import (
	"slices"
	"testing"

	"primrose/api"
	"primrose/fraction"
)

// roomyLimbs makes a copy with something behind it.
func roomyLimbs(a []uint32) []uint32 {
	return append(slices.Clone(a), 77, 78, 79)[:len(a)]
}

// roomy makes a copy with something behind it, and behind all that belongs to it.
func roomy(p []api.Term) []api.Term {
	l := []api.Term{}
	for _, t := range p {
		c := api.Rat{Num: api.Int{Neg: t.C.Num.Neg, Mag: roomyLimbs(t.C.Num.Mag)}, Den: roomyLimbs(t.C.Den)}
		l = append(l, api.Term{C: c, E: append(slices.Clone(t.E), 7, 8)[:len(t.E)]})
	}
	more := api.Term{C: fraction.Of(9), E: []int{3}}
	return append(l, more, more)[:len(l)]
}

// roomyList makes a copy of all polynomials, with something behind each and behind
// the list.
func roomyList(l [][]api.Term) [][]api.Term {
	all := [][]api.Term{}
	for _, p := range l {
		all = append(all, roomy(p))
	}
	return append(all, roomy(nil), nil)[:len(l)]
}

// behind makes a copy with what stands behind p and behind all that belongs to it.
func behind(p []api.Term) []api.Term {
	l := slices.Clone(p[:cap(p)])
	for k, t := range l {
		l[k].C.Num.Mag = slices.Clone(t.C.Num.Mag[:cap(t.C.Num.Mag)])
		l[k].C.Den = slices.Clone(t.C.Den[:cap(t.C.Den)])
		l[k].E = slices.Clone(t.E[:cap(t.E)])
	}
	return l
}

func behindList(l [][]api.Term) [][]api.Term {
	all := slices.Clone(l[:cap(l)])
	for i, p := range all {
		all[i] = behind(p)
	}
	return all
}

func isSameRat(x, y api.Rat) bool {
	return x.Num.Neg == y.Num.Neg && slices.Equal(x.Num.Mag, y.Num.Mag) && slices.Equal(x.Den, y.Den)
}

func areEqual(p, q []api.Term) bool {
	return slices.EqualFunc(p, q, func(s, t api.Term) bool { return isSameRat(s.C, t.C) && slices.Equal(s.E, t.E) })
}

func areEqualLists(l, m [][]api.Term) bool {
	return slices.EqualFunc(l, m, areEqual)
}

// overwrite writes into a list and behind it.
func overwrite(l []int) {
	for i := range l {
		l[i] = -5
	}
	_ = append(l, -6, -7)
}

// expectOwnMemory writes into all that was answered, list by list.
func expectOwnMemory(t *testing.T, call string, r api.Ring, f [][]api.Term, fuel int) {
	t.Helper()
	f = roomyList(f)
	r.Names = append(slices.Clone(r.Names), "behind", "them")[:len(r.Names)]
	kept, names := behindList(f), slices.Clone(r.Names[:cap(r.Names)])
	a, want := ask(call, r, f, fuel), ask(call, r, f, fuel)
	if !areSameReplies(a, want) {
		t.Fatalf("%s of %v answers another time %v, not %v", call, f, want, a)
	}
	for k := range a.below {
		overwrite(a.below[k])
		if !slices.EqualFunc(a.below[k+1:], want.below[k+1:], slices.Equal) {
			t.Fatalf("%s of %v: a monomial was changed with the one at %d", call, f, k)
		}
		a.below[k] = nil
	}
	_ = append(a.below, nil, nil)
	overwrite(a.set)
	if !areEqualLists(behindList(f), kept) || !slices.Equal(r.Names[:cap(r.Names)], names) {
		t.Fatalf("for %s of %v an argument was changed", call, f)
	}
	if again := ask(call, r, f, fuel); !areSameReplies(again, want) {
		t.Fatalf("%s of %v answers %v now, not %v", call, f, again, want)
	}
}

// Arguments keep their elements, and so does the memory behind them (R3 of the whole);
// each list of an answer has memory of its own, and no answer hangs on an earlier one
// (R4 of the whole).
func TestMemory(t *testing.T) {
	t.Parallel()
	s := noise(15)
	for _, call := range calls() {
		for _, r := range allRings() {
			n := len(r.Names)
			for k := range 6 {
				f := s.sampleIdeal(n, 1+9*k)
				expectOwnMemory(t, call, r, s.anyForms(r, f), 200)
				expectOwnMemory(t, call, r, termsOf(r, f), 200)
			}
			expectOwnMemory(t, call, r, powersOf(r, 3), 200)
		}
		for _, r := range rings(2) {
			for _, text := range []string{"", "0", "1", "x", "-2/3*x^2*y", "x^3; y^4", "x; 3*x; 2; 5", "x*y - 1; y^2 - 1", "0; x^2 - y; 0; 2*y", "x^65536*y + 1; x^65536 - y", "x^25; y^40", "x^91; y^11"} {
				for _, fuel := range []int{0, 1, 200, -1} {
					expectOwnMemory(t, call, r, parsedList(t, r, text), fuel)
				}
			}
			for _, other := range append(wrongPolynomials(2), zeros(2)...) {
				expectOwnMemory(t, call, r, append(parsedList(t, r, "x^3; y^4"), other), 200)
			}
		}
	}
}

// Lists whose terms share their limbs and their exponents, and are parts of one
// list.
func TestOverlappingArguments(t *testing.T) {
	r := lex(2)
	mag, e := []uint32{6, 0}, []int{2, 0, 2}
	x := api.Term{C: api.Rat{Num: api.Int{Mag: mag}, Den: mag[:1]}, E: e[:2]}                 // x^2
	y := api.Term{C: api.Rat{Num: api.Int{Neg: true, Mag: mag[:1]}, Den: mag[:1]}, E: e[1:3]} // -y^2
	all := []api.Term{y, x, x, y}                                                             // 2*x^2 - 2*y^2
	for _, f := range [][][]api.Term{{all, all[:2], all[1:]}, {all, all[:2], all[2:]}, {all[:1], all[1:2], all}, {all[3:]}} {
		expectWords(t, r, f, 50)
	}
	expect(t, "Below", r, [][]api.Term{all, all[:1]}, 50, reply{below: [][]int{{0, 0}, {0, 1}, {1, 0}, {1, 1}}, left: 48})
	if mag[0] != 6 || mag[1] != 0 || !slices.Equal(e, []int{2, 0, 2}) {
		t.Errorf("arguments were changed: %v, %v", mag, e)
	}
}
