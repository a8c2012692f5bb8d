package basis_test

import (
	"slices"
	"testing"

	"primrose/api"
	"primrose/basis"
	"primrose/fraction"
)

// roomyLimbs makes a copy with something behind it.
func roomyLimbs(a []uint32) []uint32 {
	return append(slices.Clone(a), 77, 78, 79)[:len(a)]
}

// roomy makes a copy with something behind it, and behind all that belongs to it.
func roomy(p []api.Term) []api.Term {
	l := []api.Term{}
	for _, t := range p {
		c := api.Rat{Num: api.Int{Neg: t.C.Num.Neg, Mag: roomyLimbs(t.C.Num.Mag)}, Den: roomyLimbs(t.C.Den)}
		l = append(l, api.Term{C: c, E: append(slices.Clone(t.E), 7, 8)[:len(t.E)]})
	}
	more := api.Term{C: fraction.Of(9), E: []int{3}}
	return append(l, more, more)[:len(l)]
}

// roomyList makes a copy of all polynomials, with something behind each and behind
// the list.
func roomyList(l [][]api.Term) [][]api.Term {
	all := [][]api.Term{}
	for _, p := range l {
		all = append(all, roomy(p))
	}
	return append(all, roomy(nil), nil)[:len(l)]
}

// behind makes a copy with what stands behind p and behind all that belongs to it.
func behind(p []api.Term) []api.Term {
	l := slices.Clone(p[:cap(p)])
	for k, t := range l {
		l[k].C.Num.Mag = slices.Clone(t.C.Num.Mag[:cap(t.C.Num.Mag)])
		l[k].C.Den = slices.Clone(t.C.Den[:cap(t.C.Den)])
		l[k].E = slices.Clone(t.E[:cap(t.E)])
	}
	return l
}

func behindList(l [][]api.Term) [][]api.Term {
	all := slices.Clone(l[:cap(l)])
	for i, p := range all {
		all[i] = behind(p)
	}
	return all
}

func isSameRat(x, y api.Rat) bool {
	return x.Num.Neg == y.Num.Neg && slices.Equal(x.Num.Mag, y.Num.Mag) && slices.Equal(x.Den, y.Den)
}

func areEqual(p, q []api.Term) bool {
	return slices.EqualFunc(p, q, func(s, t api.Term) bool { return isSameRat(s.C, t.C) && slices.Equal(s.E, t.E) })
}

func areEqualLists(l, m [][]api.Term) bool {
	return slices.EqualFunc(l, m, areEqual)
}

func overwriteLimbs(a []uint32) {
	for i := range a {
		a[i] = 0x55555555
	}
	_ = append(a, 0x55555555, 0x55555555)
}

func overwrite(t *api.Term) {
	overwriteLimbs(t.C.Num.Mag)
	overwriteLimbs(t.C.Den)
	for i := range t.E {
		t.E[i] = -5
	}
	_ = append(t.E, -6, -7)
	*t = api.Term{}
}

// expectOwnMemory writes into all that was answered, term by term.
func expectOwnMemory(t *testing.T, r api.Ring, l [][]api.Term) {
	t.Helper()
	const fuel = 200
	l = roomyList(l)
	kept, names := behindList(l), slices.Clone(r.Names)
	g, left, e := basis.Reduced(r, l, fuel)
	is, isLeft, isError := basis.Is(r, l, fuel)
	want, sameLeft, sameError := basis.Reduced(r, l, fuel)
	if !areEqualLists(g, want) || left != sameLeft || e != sameError {
		t.Fatalf("the basis of %v is another one now", l)
	}
	for i := range g {
		for k := range g[i] {
			overwriteLimbs(g[i][k].C.Num.Mag)
			if !slices.Equal(g[i][k].C.Den, want[i][k].C.Den) {
				t.Fatalf("element %d for %v: the denominator of term %d was changed through the numerator", i, l, k)
			}
			overwrite(&g[i][k])
			if !areEqual(g[i][k+1:], want[i][k+1:]) || !areEqualLists(g[i+1:], want[i+1:]) {
				t.Fatalf("element %d for %v: term %d was changed with another one", i, l, k)
			}
		}
		_ = append(g[i], api.Term{}, api.Term{})
		if !areEqualLists(g[i+1:], want[i+1:]) {
			t.Fatalf("element %d for %v: another one stands behind it", i, l)
		}
	}
	_ = append(g, nil, nil)
	if !areEqualLists(behindList(l), kept) || !slices.Equal(r.Names, names) {
		t.Fatalf("for %v an argument was changed", l)
	}
	if again, againLeft, againError := basis.Is(r, l, fuel); is != again || isLeft != againLeft || isError != againError {
		t.Fatalf("%v is another one now", l)
	}
}

// Arguments keep their elements, and so does the memory behind them (R3); each
// list of an answer has memory of its own, and no answer hangs on an earlier one
// (R4).
func TestMemory(t *testing.T) {
	s := noise(15)
	for _, r := range allRings() {
		n := len(r.Names)
		for k := range 12 {
			l := s.samples(k%5, n, 3, 3, 1+5*k)
			expectOwnMemory(t, r, s.anyForms(r, l))
			expectOwnMemory(t, r, termsOf(r, l))
			if a := reduced(r, l, 200); a.e == api.OK {
				expectOwnMemory(t, r, termsOf(r, a.g))
			}
		}
	}
	for _, r := range rings(2) {
		for _, l := range []string{"", "0", "1", "x", "-2/3*x^2*y", "x; y", "x; 3*x; 2; 5", "x*y - 1; y^2 - 1", "0; x^2 - y; 0; 2*y", "y^65536*x + 1; x^65536 - y", "x - y; y - 1"} {
			expectOwnMemory(t, r, parsedList(t, r, l))
			for _, wrong := range wrongPolynomials(2) {
				expectOwnMemory(t, r, append(parsedList(t, r, l), wrong))
			}
			for _, zero := range zeros(2) {
				expectOwnMemory(t, r, append(parsedList(t, r, l), zero, zero))
			}
		}
	}
}

// Lists whose terms share their limbs and their exponents, and are parts of one
// list.
func TestOverlappingArguments(t *testing.T) {
	r := lex(2)
	mag, e := []uint32{6, 0}, []int{2, 0, 2}
	x := api.Term{C: api.Rat{Num: api.Int{Mag: mag}, Den: mag[:1]}, E: e[:2]}                 // x^2
	y := api.Term{C: api.Rat{Num: api.Int{Neg: true, Mag: mag[:1]}, Den: mag[:1]}, E: e[1:3]} // -y^2
	all := []api.Term{y, x, x, y}                                                             // 2*x^2 - 2*y^2
	difference := minus(power(0, 2), power(1, 2))
	expectReduced(t, r, [][]api.Term{all, all[:2], all[1:]}, 8, answer{g: []sum{power(1, 2), power(0, 2)}})
	expectReckoned(t, r, [][]api.Term{all, all[:2], all[1:]}, 8)
	expectReduced(t, r, [][]api.Term{all, all[:2], all[2:]}, 3, answer{g: []sum{difference}})
	expectIs(t, r, [][]api.Term{all, all[:2], all[2:]}, 3, answer{is: true})
	if mag[0] != 6 || mag[1] != 0 || !slices.Equal(e, []int{2, 0, 2}) {
		t.Errorf("arguments were changed: %v, %v", mag, e)
	}
}
