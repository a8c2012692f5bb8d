package poly_test

import (
	"math/big"
	"slices"
	"testing"

	"primrose/api"
	"primrose/fraction"
	"primrose/poly"
)

func TestG2AddSub(t *testing.T) {
	one, minus := big.NewRat(1, 1), big.NewRat(-1, 1)
	for _, r := range allRings() {
		for _, p := range samples(len(r.Names)) {
			for _, q := range samples(len(r.Names)) {
				got, e := poly.Add(r, p, q)
				expect(t, r, got, e, sumOf(p).plus(sumOf(q), one), "Add", p, q)
				got, e = poly.Sub(r, p, q)
				expect(t, r, got, e, sumOf(p).plus(sumOf(q), minus), "Sub", p, q)
			}
		}
	}
}

func TestG2Cancelling(t *testing.T) {
	r := rings(2)[2]
	p := []api.Term{of(1, 2, 0), {C: rat(3, 6), E: []int{1, 1}}, of(5, 0, 0)}
	q := []api.Term{{C: rat(-1, 2), E: []int{1, 1}}, of(5, 0, 0), of(7, limit, limit)}
	got, e := poly.Add(r, p, q)
	expectTerms(t, got, e, []api.Term{of(7, limit, limit), of(1, 2, 0), of(10, 0, 0)}, "Add")
	got, e = poly.Sub(r, p, q)
	expectTerms(t, got, e, []api.Term{of(-7, limit, limit), of(1, 2, 0), of(1, 1, 1)}, "Sub")
	for _, l := range samples(2) {
		if got, e := poly.Sub(r, l, l); e != api.OK || len(got) != 0 {
			t.Errorf("%v - %v: %v, error %d", l, l, got, e)
		}
	}
}

func TestG4Scale(t *testing.T) {
	for _, r := range allRings() {
		for _, p := range samples(len(r.Names)) {
			for _, c := range coefficients() {
				got, e := poly.Scale(r, p, c)
				expect(t, r, got, e, sum{}.plus(sumOf(p), toBig(c)), "Scale", p, c)
			}
		}
	}
}

func TestG4Monic(t *testing.T) {
	for _, r := range allRings() {
		for _, p := range samples(len(r.Names)) {
			got, e := poly.Monic(r, p)
			l, _ := poly.Norm(r, p)
			if len(l) == 0 {
				expectTerms(t, got, e, nil, "Monic of 0")
				continue
			}
			expect(t, r, got, e, sum{}.plus(sumOf(p), new(big.Rat).Inv(toBig(l[0].C))), "Monic", p)
			if !isSameRat(got[0].C, fraction.Of(1)) {
				t.Errorf("Monic of %v in %v begins with %v", p, r, got[0])
			}
		}
	}
}

// The leading term depends on the order.
func TestG4MonicOfEachOrder(t *testing.T) {
	p := []api.Term{of(-4, 0, 2), of(6, 1, 0)}
	got, e := poly.Monic(rings(2)[0], p)
	expectTerms(t, got, e, []api.Term{of(1, 1, 0), {C: fraction.Neg(rat(2, 3)), E: []int{0, 2}}}, "Monic by Lex")
	got, e = poly.Monic(rings(2)[1], p)
	expectTerms(t, got, e, []api.Term{of(1, 0, 2), {C: fraction.Plain(rat(-3, 2)), E: []int{1, 0}}}, "Monic by Grlex")
}

func TestG5Lead(t *testing.T) {
	for _, r := range allRings() {
		for _, p := range samples(len(r.Names)) {
			got, e := poly.Lead(r, p)
			l, _ := poly.Norm(r, p)
			if len(l) > 0 {
				expectTerms(t, []api.Term{got}, e, l[:1], "Lead")
			} else if e != api.ErrZero || !isNoRat(got.C) || len(got.E) != 0 {
				t.Errorf("Lead of %v in %v: %v, error %d", p, r, got, e)
			}
		}
	}
}

func TestG5LeadOfEachOrder(t *testing.T) {
	p := []api.Term{of(2, 0, 2, 0), of(3, 1, 0, 1), of(5, 0, 0, 1), of(9, 4, 4, 4), of(-9, 4, 4, 4), of(0, 7, 7, 7)}
	for i, want := range []int{3, 3, 2, 3, 2} {
		got, e := poly.Lead(rings(3)[i], p)
		if e != api.OK || !isSameRat(got.C, fraction.Of(want)) {
			t.Errorf("Lead in %v: %v, error %d", rings(3)[i], got, e)
		}
	}
}

func TestG5Degree(t *testing.T) {
	for _, r := range allRings() {
		for _, p := range samples(len(r.Names)) {
			for i := range r.Names {
				want := -1
				for k := range sumOf(p) {
					want = max(want, k[i])
				}
				if got, e := poly.Degree(r, p, i); e != api.OK || got != want {
					t.Errorf("Degree of %v in %v, variable %d: %d, error %d", p, r, i, got, e)
				}
			}
		}
	}
}

func TestG5DegreeOfEachVariable(t *testing.T) {
	p := []api.Term{of(1, 3, 0, 1), of(2, 1, limit, 0), of(0, 9, 9, 9), of(4, 8, 8, 8), of(-4, 8, 8, 8)}
	for _, r := range rings(3) {
		for i, want := range []int{3, limit, 1} {
			if got, e := poly.Degree(r, p, i); e != api.OK || got != want {
				t.Errorf("Degree in %v, variable %d: %d, error %d", r, i, got, e)
			}
			if got, e := poly.Degree(r, p[2:], i); e != api.OK || got != -1 {
				t.Errorf("Degree of 0 in %v, variable %d: %d, error %d", r, i, got, e)
			}
			if got, e := poly.Degree(r, []api.Term{of(1, 0, 0, 0)}, i); e != api.OK || got != 0 {
				t.Errorf("Degree of 1 in %v, variable %d: %d, error %d", r, i, got, e)
			}
		}
	}
}

// Arguments keep their terms, and so does the memory behind them (R3); each
// list of an answer has memory of its own; what is done to it changes no other
// list and no later answer (R4).
func TestMemory(t *testing.T) {
	s := noise(3)
	for range 20 {
		p, q := roomy(s.list(2, 6, 3)), roomy(s.list(2, 5, 3))
		plain, _ := poly.Norm(rings(2)[0], p)
		expectOwnMemory(t, p, q)
		expectOwnMemory(t, plain, q)
		expectOwnMemory(t, roomy(plain), roomy([]api.Term{of(1, 0, 0)}))
		expectOwnMemory(t, roomy([]api.Term{of(3, 1, 0)}), roomy([]api.Term{of(1, 0, 1)}))
	}
}

// roomy puts something behind each list.
func roomy(p []api.Term) []api.Term {
	l := append(copied(p), of(77, 1, 1), of(78, 2, 2))
	for k := range l {
		l[k].E = append(l[k].E, 66)[:len(l[k].E)]
		l[k].C.Num.Mag = append(l[k].C.Num.Mag, 55)[:len(l[k].C.Num.Mag)]
		l[k].C.Den = append(l[k].C.Den, 44)[:len(l[k].C.Den)]
	}
	return l[:len(p)]
}

// copied makes a copy in memory of its own.
func copied(p []api.Term) []api.Term {
	l := make([]api.Term, len(p))
	for k, t := range p {
		l[k] = api.Term{C: t.C, E: slices.Clone(t.E)}
		l[k].C.Num.Mag, l[k].C.Den = slices.Clone(t.C.Num.Mag), slices.Clone(t.C.Den)
	}
	return l
}

// behind makes a copy with what stands behind each list too.
func behind(p []api.Term) []api.Term {
	l := slices.Clone(p[:cap(p)])
	for k, t := range l {
		l[k].E = slices.Clone(t.E[:cap(t.E)])
		l[k].C.Num.Mag, l[k].C.Den = slices.Clone(t.C.Num.Mag[:cap(t.C.Num.Mag)]), slices.Clone(t.C.Den[:cap(t.C.Den)])
	}
	return l
}

// allAnswers are the polynomials that the calls answer for p and q.
func allAnswers(r api.Ring, p, q []api.Term, at []api.Rat) [][]api.Term {
	norm, _ := poly.Norm(r, p)
	sum, _ := poly.Add(r, p, q)
	nothing, _ := poly.Add(r, p, nil)
	other, _ := poly.Add(r, nil, q)
	difference, _ := poly.Sub(r, p, q)
	negative, _ := poly.Sub(r, nil, q)
	product, _ := poly.Mul(r, p, q)
	square, _ := poly.Mul(r, p, p)
	scaled, _ := poly.Scale(r, p, at[0])
	same, _ := poly.Scale(r, p, fraction.Of(1))
	monic, _ := poly.Monic(r, p)
	lead, _ := poly.Lead(r, p)
	value, _ := poly.Eval(r, p, at)
	constant, _ := poly.Eval(r, q, make([]api.Rat, 2))
	derivative, _ := poly.Deriv(r, p, 0)
	replaced, _ := poly.Subst(r, p, 1, q)
	self, _ := poly.Subst(r, p, 1, p)
	return [][]api.Term{
		norm, sum, nothing, other, difference, negative, product, square, scaled, same, monic, {lead},
		{{C: value}, {C: constant}}, derivative, replaced, self,
	}
}

func expectOwnMemory(t *testing.T, p, q []api.Term) {
	t.Helper()
	names, at := []string{"x", "y", "behind"}, []api.Rat{rat(-6, 4), rat(2, 1), rat(9, 9)}
	r := api.Ring{Names: names[:2]}
	keptP, keptQ, keptAt := behind(p), behind(q), behind([]api.Term{{C: at[0]}, {C: at[1]}, {C: at[2]}})
	intact := func() bool {
		nowAt := behind([]api.Term{{C: at[0]}, {C: at[1]}, {C: at[2]}})
		return isSame(behind(p), keptP) && isSame(behind(q), keptQ) && isSame(nowAt, keptAt) && slices.Equal(names, []string{"x", "y", "behind"})
	}
	answers := allAnswers(r, p, q, at[:2])
	for i, want := range allAnswers(r, p, q, at[:2]) {
		if !isSame(answers[i], want) {
			t.Errorf("answer %d was changed through another one", i)
		}
		for k, term := range answers[i] {
			if !isSame(answers[i][k:], want[k:]) {
				t.Errorf("answer %d: its lists share memory", i)
			}
			overwrite(term.C.Num.Mag, 5)
			overwrite(term.C.Den, 5)
			overwrite(term.E, 5)
		}
		answers[i] = append(answers[i], api.Term{})
		clear(answers[i])
		if !intact() {
			t.Fatalf("answer %d: an argument was changed", i)
		}
	}
	poly.Right(r, p)
	poly.Degree(r, p, 1)
	if !intact() {
		t.Fatal("an argument was changed")
	}
}

// overwrite writes into a list, and behind it where an append would.
func overwrite[T any](list []T, x T) {
	for i := range list {
		list[i] = x
	}
	_ = append(list, x)
}
