package primary_test

import (
	"slices"
	"testing"

	"primrose/api"
	"primrose/fraction"
)

// roomyLimbs makes a copy with something behind it.
func roomyLimbs(a []uint32) []uint32 {
	return append(slices.Clone(a), 77, 78, 79)[:len(a)]
}

// roomy makes a copy with something behind it, and behind all that belongs to it.
func roomy(p []api.Term) []api.Term {
	l := []api.Term{}
	for _, t := range p {
		c := api.Rat{Num: api.Int{Neg: t.C.Num.Neg, Mag: roomyLimbs(t.C.Num.Mag)}, Den: roomyLimbs(t.C.Den)}
		l = append(l, api.Term{C: c, E: append(slices.Clone(t.E), 7, 8)[:len(t.E)]})
	}
	more := api.Term{C: fraction.Of(9), E: []int{3}}
	return append(l, more, more)[:len(l)]
}

// roomyList makes a copy of all polynomials, with something behind each and behind
// the list.
func roomyList(l [][]api.Term) [][]api.Term {
	all := [][]api.Term{}
	for _, p := range l {
		all = append(all, roomy(p))
	}
	return append(all, roomy(nil), nil)[:len(l)]
}

// behindList makes a copy with what stands behind the list, behind each polynomial and
// behind all that belongs to it.
func behindList(l [][]api.Term) [][]api.Term {
	all := slices.Clone(l[:cap(l)])
	for i, p := range all {
		all[i] = slices.Clone(p[:cap(p)])
		for k, t := range all[i] {
			all[i][k].C.Num.Mag = slices.Clone(t.C.Num.Mag[:cap(t.C.Num.Mag)])
			all[i][k].C.Den = slices.Clone(t.C.Den[:cap(t.C.Den)])
			all[i][k].E = slices.Clone(t.E[:cap(t.E)])
		}
	}
	return all
}

// isUntouched reports whether two lists of terms are the same, of which some may be no
// monomials.
func isUntouched(f, g [][]api.Term) bool {
	return slices.EqualFunc(f, g, isSame)
}

// lists are all lists of polynomials of a reply.
func (a reply) lists() [][][]api.Term {
	l := append([][][]api.Term{a.g}, a.p...)
	for _, x := range a.l {
		l = append(l, x.Q, x.P)
	}
	return l
}

func overwrite(t *api.Term) {
	for _, l := range [][]uint32{t.C.Num.Mag, t.C.Den} {
		for i := range l {
			l[i] = 0x55555555
		}
		_ = append(l, 0x55555555, 0x55555555)
	}
	for i := range t.E {
		t.E[i] = -5
	}
	_ = append(t.E, -6, -7)
	*t = api.Term{}
}

// expectOwnMemory writes into all that was answered, list by list and term by term.
func expectOwnMemory(t *testing.T, q question, fuel int) {
	t.Helper()
	q.f = roomyList(q.f)
	q.r.Names = append(slices.Clone(q.r.Names), "behind", "them")[:len(q.r.Names)]
	f, names := behindList(q.f), slices.Clone(q.r.Names[:cap(q.r.Names)])
	a, want := q.ask(fuel), q.ask(fuel)
	if !areSameReplies(a, want) {
		t.Fatalf("%v answers another time %s, not %s", q, q.told(a), q.told(want))
	}
	lists, wants := a.lists(), want.lists()
	for i, l := range lists {
		for j, p := range l {
			for k := range p {
				overwrite(&p[k])
				if !isSame(p[k+1:], wants[i][j][k+1:]) {
					t.Fatalf("list %d for %v: term %d was changed with another one", i, q, k)
				}
			}
			l[j] = append(p, api.Term{}, api.Term{})
			if !areSame(l[j+1:], wants[i][j+1:]) || !slices.EqualFunc(lists[i+1:], wants[i+1:], areSame) {
				t.Fatalf("list %d for %v: polynomial %d was changed with another one", i, q, j)
			}
		}
		_ = append(l, nil, nil)
		if !slices.EqualFunc(lists[i+1:], wants[i+1:], areSame) {
			t.Fatalf("list %d for %v: another one stands behind it", i, q)
		}
	}
	if !isUntouched(behindList(q.f), f) || !slices.Equal(q.r.Names[:cap(q.r.Names)], names) {
		t.Fatalf("for %v an argument was changed", q)
	}
	if again := q.ask(fuel); !areSameReplies(again, want) {
		t.Fatalf("%v answers %s now, not %s", q, q.told(again), q.told(want))
	}
}

// Arguments keep their elements, and so does the memory behind them (R3); each list of
// an answer has memory of its own, and no answer hangs on an earlier one (R4).
func TestMemory(t *testing.T) {
	t.Parallel()
	s := noise(15)
	for _, call := range calls() {
		for n := 1; n <= 6; n++ {
			for _, r := range rings(n) {
				for range 2 {
					f := s.sampleIdeal(t, r)
					expectOwnMemory(t, question{call, r, s.anyForms(f)}, 400)
					expectOwnMemory(t, question{call, r, f}, 400)
				}
			}
		}
		for _, r := range rings(2) {
			for _, text := range []string{"", "0", "1", "x", "-2/3*x^2*y", "x*y; x^2", "x^2 - 1; y^2 - 4", "x; 3*x; y^2", "x*y^2 - y^2; x^3*y; x - 1", "x^2 - 2; y", "y^65536*x + 1; x^65536 - y"} {
				expectOwnMemory(t, question{call, r, parsedList(t, r, text)}, 800)
				expectOwnMemory(t, question{call, r, parsedList(t, r, text)}, -1)
			}
			for _, other := range slices.Concat(wrongPolynomials(2), zeros(2)) {
				expectOwnMemory(t, question{call, r, append(parsedList(t, r, "x*y; x^2; y^2"), other)}, 800)
			}
		}
	}
}

// Lists whose terms share their limbs and their exponents and are parts of one list.
func TestOverlappingArguments(t *testing.T) {
	r := lex(2)
	mag, e := []uint32{6, 0}, []int{0, 1, 2, 0, 2}
	a := api.Term{C: api.Rat{Num: api.Int{Mag: mag}, Den: mag[:1]}, E: e[2:4]}                // x^2
	b := api.Term{C: api.Rat{Num: api.Int{Neg: true, Mag: mag[:1]}, Den: mag[:1]}, E: e[1:3]} // -x*y^2
	all := []api.Term{b, a, a, b}                                                             // -2*x*y^2 + 2*x^2
	for _, call := range calls() {
		for _, f := range [][][]api.Term{{all, all[:2], all[1:]}, {all, all[:1]}, {all[1:2], all[:1], all}, {all[3:]}} {
			expectWords(t, question{call, r, f}, 2000)
		}
	}
	if mag[0] != 6 || mag[1] != 0 || !slices.Equal(e, []int{0, 1, 2, 0, 2}) {
		t.Errorf("arguments were changed: %v, %v", mag, e)
	}
}

// The new variables of the layers below have names that the ring does not have. Which ones
// these are does not show: all calls answer what they do with other names.
func TestNames(t *testing.T) {
	t.Parallel()
	s := noise(50)
	for _, names := range [][]string{
		{"t"}, {"tt"}, {"T"}, {"t", "tt"}, {"tt", "t"}, {"t", "ttt"}, {"tt", "ttt"}, {"t", "T"}, {"t", "tt", "ttt"}, {"ttt", "tt", "t"}, {"tt", "x", "ttt"}, {"t", "tt", "tttt"},
		{"x", "t", "y", "tt"}, {"tttt", "ttt", "tt", "t"}, {"t", "tt", "ttt", "tttt", "ttttt"}, {"t", "tt", "ttt", "tttt", "tttttt"}, {"t1", "t2", "t", "tttttttt", "tt"},
	} {
		for _, r := range rings(len(names)) {
			for _, call := range calls() {
				q := question{call, r, s.anyForms(s.sampleIdeal(t, r))}
				want, _ := q.words(800)
				q.r.Names = names
				expect(t, q, 800, want)
			}
		}
	}
}
