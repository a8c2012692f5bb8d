package point_test

import (
	"slices"
	"testing"

	"primrose/api"
	"primrose/fraction"
)

// roomyLimbs makes a copy with something behind it.
func roomyLimbs(a []uint32) []uint32 {
	return append(slices.Clone(a), 77, 78, 79)[:len(a)]
}

// roomy makes a copy with something behind it, and behind all that belongs to it.
func roomy(p []api.Term) []api.Term {
	l := []api.Term{}
	for _, t := range p {
		c := api.Rat{Num: api.Int{Neg: t.C.Num.Neg, Mag: roomyLimbs(t.C.Num.Mag)}, Den: roomyLimbs(t.C.Den)}
		l = append(l, api.Term{C: c, E: append(slices.Clone(t.E), 7, 8)[:len(t.E)]})
	}
	more := api.Term{C: fraction.Of(9), E: []int{3}}
	return append(l, more, more)[:len(l)]
}

// roomyList makes a copy of all polynomials, with something behind each and behind
// the list.
func roomyList(l [][]api.Term) [][]api.Term {
	all := [][]api.Term{}
	for _, p := range l {
		all = append(all, roomy(p))
	}
	return append(all, roomy(nil), nil)[:len(l)]
}

// behind makes a copy with what stands behind p and behind all that belongs to it.
func behind(p []api.Term) []api.Term {
	l := slices.Clone(p[:cap(p)])
	for k, t := range l {
		l[k].C.Num.Mag = slices.Clone(t.C.Num.Mag[:cap(t.C.Num.Mag)])
		l[k].C.Den = slices.Clone(t.C.Den[:cap(t.C.Den)])
		l[k].E = slices.Clone(t.E[:cap(t.E)])
	}
	return l
}

func behindList(l [][]api.Term) [][]api.Term {
	all := slices.Clone(l[:cap(l)])
	for i, p := range all {
		all[i] = behind(p)
	}
	return all
}

func isSameRat(x, y api.Rat) bool {
	return x.Num.Neg == y.Num.Neg && slices.Equal(x.Num.Mag, y.Num.Mag) && slices.Equal(x.Den, y.Den)
}

func areEqual(p, q []api.Term) bool {
	return slices.EqualFunc(p, q, func(s, t api.Term) bool { return isSameRat(s.C, t.C) && slices.Equal(s.E, t.E) })
}

func areEqualLists(l, m [][]api.Term) bool {
	return slices.EqualFunc(l, m, areEqual)
}

func areSameReplies(a, b reply) bool {
	isSameComponent := func(x, y api.Component) bool { return areEqualLists(x.Q, y.Q) && areEqualLists(x.P, y.P) }
	return areEqual(a.p, b.p) && areEqualLists(a.g, b.g) && slices.EqualFunc(a.l, b.l, isSameComponent) && a.left == b.left && a.e == b.e
}

func overwriteLimbs(a []uint32) {
	for i := range a {
		a[i] = 0x55555555
	}
	_ = append(a, 0x55555555, 0x55555555)
}

func overwriteNumbers(l []int) {
	for i := range l {
		l[i] = -5
	}
	_ = append(l, -6, -7)
}

func overwrite(t *api.Term) {
	overwriteLimbs(t.C.Num.Mag)
	overwriteLimbs(t.C.Den)
	overwriteNumbers(t.E)
	*t = api.Term{}
}

func (a reply) lists() [][]api.Term {
	l := append([][]api.Term{a.p}, a.g...)
	for _, x := range a.l {
		l = append(append(l, x.Q...), x.P...)
	}
	return l
}

// expectOwnMemory writes into all that was answered, list by list and term by term.
func expectOwnMemory(t *testing.T, q question, fuel int) {
	t.Helper()
	q.f = roomyList(q.f)
	q.u, q.form = append(slices.Clone(q.u), 4, 5)[:len(q.u)], append(slices.Clone(q.form), 8, 9)[:len(q.form)]
	q.r.Names = append(slices.Clone(q.r.Names), "behind", "them")[:len(q.r.Names)]
	f, u, form, names := behindList(q.f), slices.Clone(q.u[:cap(q.u)]), slices.Clone(q.form[:cap(q.form)]), slices.Clone(q.r.Names[:cap(q.r.Names)])
	a, want := q.ask(fuel), q.ask(fuel)
	if !areSameReplies(a, want) {
		t.Fatalf("%v answers another time %s, not %s", q, q.told(a), q.told(want))
	}
	lists, wants := a.lists(), want.lists()
	for i, p := range lists {
		for k := range p {
			overwriteLimbs(p[k].C.Num.Mag)
			if !slices.Equal(p[k].C.Den, wants[i][k].C.Den) {
				t.Fatalf("list %d for %v: the denominator of term %d was changed through the numerator", i, q, k)
			}
			overwrite(&p[k])
			if !areEqual(p[k+1:], wants[i][k+1:]) || !areEqualLists(lists[i+1:], wants[i+1:]) {
				t.Fatalf("list %d for %v: term %d was changed with another one", i, q, k)
			}
		}
		_ = append(p, api.Term{}, api.Term{})
		if !areEqualLists(lists[i+1:], wants[i+1:]) {
			t.Fatalf("list %d for %v: another one stands behind it", i, q)
		}
	}
	expectOwnLists(t, q, a)
	if !areEqualLists(behindList(q.f), f) || !slices.Equal(q.u[:cap(q.u)], u) || !slices.Equal(q.form[:cap(q.form)], form) || !slices.Equal(q.r.Names[:cap(q.r.Names)], names) {
		t.Fatalf("for %v an argument was changed", q)
	}
	if again := q.ask(fuel); !areSameReplies(again, want) {
		t.Fatalf("%v answers %s now, not %s", q, q.told(again), q.told(want))
	}
}

// expectOwnLists writes into the lists of polynomials that were answered.
func expectOwnLists(t *testing.T, q question, a reply) {
	t.Helper()
	var all [][][]api.Term
	for _, x := range a.l {
		all = append(all, x.Q, x.P)
	}
	mark := []api.Term{{E: []int{-1}}}
	for i, l := range all {
		for k := range l {
			l[k] = mark
		}
		_ = append(l, mark, mark)
		for _, other := range all[i+1:] {
			if slices.ContainsFunc(other, func(p []api.Term) bool { return len(p) == 1 && slices.Equal(p[0].E, mark[0].E) }) {
				t.Fatalf("list %d for %v: another one stands in it or behind it", i, q)
			}
		}
	}
	_ = append(a.g, nil, nil)
	_ = append(a.l, api.Component{}, api.Component{})
}

// Arguments keep their elements, and so does the memory behind them (R3); each list of
// an answer has memory of its own, and no answer hangs on an earlier one (R4).
func TestMemory(t *testing.T) {
	t.Parallel()
	s := noise(15)
	for _, call := range calls() {
		for _, r := range allRings() {
			n := len(r.Names)
			for range 3 {
				u := s.part(n)
				f := s.samples(1+s.below(2), n, 3, 2, 40)
				if n < 6 {
					f = s.sampleIdeal(t, r, u)
				}
				expectOwnMemory(t, question{call, r, s.anyForms(r, f), u, s.form(n - len(u))}, 1500)
				expectOwnMemory(t, question{call, r, termsOf(r, f), u, s.form(n - len(u))}, 1500)
			}
		}
		for _, r := range rings(2) {
			for _, text := range []string{"", "0", "1", "x", "-2/3*x^2*y", "x*y; x^2", "x^2 - 1; y^2 - 4", "x; 3*x; y^2", "x*y^2 - y^2; x^3*y; x - 1", "y^65536*x + 1; x^65536 - y"} {
				for _, u := range append(allSets(2), wrongSets(2)...) {
					for _, form := range [][]int{nil, {2}, {1, -1}, {1, 2, 3}} {
						expectOwnMemory(t, question{call, r, parsedList(t, r, text), u, form}, 1500)
					}
				}
			}
			for _, other := range append(wrongPolynomials(2), zeros(2)...) {
				expectOwnMemory(t, question{call, r, append(parsedList(t, r, "x*y; x^2; y^2"), other), nil, []int{1, 3}}, 1500)
			}
		}
	}
}

// Lists whose terms share their limbs and their exponents and are parts of one list,
// and u and the form with the memory of exponents.
func TestOverlappingArguments(t *testing.T) {
	r := lex(2)
	mag, e := []uint32{6, 0}, []int{0, 1, 2, 0, 2}
	a := api.Term{C: api.Rat{Num: api.Int{Mag: mag}, Den: mag[:1]}, E: e[2:4]}                // x^2
	b := api.Term{C: api.Rat{Num: api.Int{Neg: true, Mag: mag[:1]}, Den: mag[:1]}, E: e[1:3]} // -x*y^2
	all := []api.Term{b, a, a, b}                                                             // -2*x*y^2 + 2*x^2
	for _, call := range calls() {
		for _, f := range [][][]api.Term{{all, all[:2], all[1:]}, {all, all[:1]}, {all[1:2], all[:1], all}, {all[3:]}} {
			for _, u := range [][]int{nil, e[:1], e[1:2]} {
				expectWords(t, question{call, r, f, u, e[1 : 3-len(u)]}, 1000)
			}
		}
	}
	if mag[0] != 6 || mag[1] != 0 || !slices.Equal(e, []int{0, 1, 2, 0, 2}) {
		t.Errorf("arguments were changed: %v, %v", mag, e)
	}
}
