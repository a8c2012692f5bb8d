package extend_test

import (
	"slices"
	"testing"

	"primrose/api"
	"primrose/basis"
	"primrose/ideal"
	"primrose/poly"
)

// enough is the fuel for most samples.
const enough = 400

// asked is what a call answers, and whether it does: nothing but the fuel may be
// missing.
func asked(t *testing.T, q question) (a reply, ok bool) {
	t.Helper()
	a = q.ask(enough)
	if a.e != api.OK && a.e != api.ErrFuel && !(q.call == "Halve" && a.e == api.ErrWhole) && !(q.call == "Degree" && a.e == api.ErrPoint) {
		t.Fatalf("%s of %s by %v in %v: %d", q.call, printedList(q.r, q.f), q.u, q.r, a.e)
	}
	return a, a.e != api.ErrFuel
}

// isWithin reports whether the ideal of f is contained in that of h.
func isWithin(t *testing.T, r api.Ring, f, h [][]api.Term) bool {
	t.Helper()
	is, _, e := ideal.Subset(r, f, h, api.MaxFuel)
	if e != api.OK {
		t.Fatalf("%s and %s in %v: %d", printedList(r, f), printedList(r, h), r, e)
	}
	return is
}

func isOne(g [][]api.Term) bool {
	return len(g) == 1 && len(g[0]) == 1 && total(g[0][0].E) == 0
}

// inSet is a basis of the polynomials in an ideal that have the variables of u alone,
// in the reordered ring, and whether the fuel is enough.
func inSet(t *testing.T, r api.Ring, f [][]api.Term, u []int) (g [][]api.Term, ok bool) {
	t.Helper()
	o, places := reordered(r, u)
	g, _, e := ideal.Eliminate(o, termsOf(o, movedList(sumsOf(f), places)), len(r.Names)-len(u), enough)
	if e != api.OK && e != api.ErrFuel {
		t.Fatalf("%s in %v: %d", printedList(r, f), r, e)
	}
	return g, e == api.OK
}

// The contraction contains the ideal, contracting it again does not change it, and it
// is the whole ring if and only if the ideal contains a polynomial other than 0 in the
// variables of u alone.
func TestS4Contractions(t *testing.T) {
	t.Parallel()
	s, tried, whole, greater := noise(90), 0, 0, 0
	for n := 1; n <= 5; n++ {
		for _, r := range rings(n) {
			for range 30 {
				q := question{"Contract", r, s.anyForms(r, s.sampleIdeal(n, 2)), s.set(n)}
				a, ok := asked(t, q)
				if !ok {
					continue
				}
				tried++
				if !isWithin(t, r, q.f, a.g) {
					t.Fatalf("S4: %s in %v is not in %s, by %v", printedList(r, q.f), r, printedList(r, a.g), q.u)
				}
				if again, ok := asked(t, question{"Contract", r, a.g, q.u}); ok && !areEqualLists(again.g, a.g) {
					t.Fatalf("S4: %s by %v in %v: %s, and then %s", printedList(r, q.f), q.u, r, printedList(r, a.g), printedList(r, again.g))
				}
				if g, ok := inSet(t, r, q.f, q.u); ok && isOne(a.g) != (len(g) > 0) {
					t.Fatalf("S4: %s by %v in %v: %s, but %d", printedList(r, q.f), q.u, r, printedList(r, a.g), len(g))
				}
				switch {
				case isOne(a.g):
					whole++
				case !isWithin(t, r, a.g, q.f):
					greater++
				}
			}
		}
	}
	if tried < 250 || whole < 80 || greater < 25 {
		t.Errorf("only %d samples, %d whole rings, and %d other ones that are greater than the ideal", tried, whole, greater)
	}
}

// Each element times a polynomial in the variables of u is in the ideal; what is not
// in the contraction is not with such a polynomial either.
func TestS1Definition(t *testing.T) {
	t.Parallel()
	s, tried := noise(91), 0
	for n := 2; n <= 4; n++ {
		for _, r := range rings(n) {
			for range 20 {
				q := question{"Contract", r, s.anyForms(r, s.sampleIdeal(n, 2)), s.set(n)}
				a, ok := asked(t, q)
				if !ok {
					continue
				}
				for _, p := range a.g {
					by, _, e := ideal.Quotient(r, q.f, [][]api.Term{p}, 2000)
					if e != api.OK {
						continue
					}
					if g, ok := inSet(t, r, by, q.u); ok && len(g) == 0 {
						t.Fatalf("S1: %s by %v in %v: %s is not one of them", printedList(r, q.f), q.u, r, printed(r, p))
					}
					tried++
				}
				by := s.in(n, q.u, 2, 2)
				same, _, e := ideal.Quotient(r, a.g, [][]api.Term{by.terms(r)}, 2000)
				if e == api.OK && !areEqualLists(same, a.g) {
					t.Fatalf("S1: %s by %v in %v: %s, but %s with %v", printedList(r, q.f), q.u, r, printedList(r, a.g), printedList(r, same), by)
				}
			}
		}
	}
	if tried < 150 {
		t.Errorf("only %d polynomials", tried)
	}
}

// With more variables in u the contraction is greater; by u and then by others it is
// that by both; of an intersection it is that of the contractions.
func TestS4MoreVariables(t *testing.T) {
	t.Parallel()
	s, tried, met := noise(92), 0, 0
	for n := 1; n <= 5; n++ {
		for _, r := range rings(n) {
			for range 20 {
				f, u, more := s.anyForms(r, s.sampleIdeal(n, 2)), s.set(n), s.set(n)
				both := slices.Compact(slices.Sorted(slices.Values(slices.Concat(u, more))))
				first, a := asked(t, question{"Contract", r, f, u})
				all, b := asked(t, question{"Contract", r, f, both})
				if !(a && b) {
					continue
				}
				tried++
				if !isWithin(t, r, first.g, all.g) {
					t.Fatalf("S1: %s in %v by %v: %s, by %v: %s", printedList(r, f), r, u, printedList(r, first.g), both, printedList(r, all.g))
				}
				if second, ok := asked(t, question{"Contract", r, first.g, both}); ok && !areEqualLists(second.g, all.g) {
					t.Fatalf("S1: %s in %v by %v and %v: %s, not %s", printedList(r, f), r, u, both, printedList(r, second.g), printedList(r, all.g))
				}
				h := s.anyForms(r, s.sampleIdeal(n, 2))
				other, c := asked(t, question{"Contract", r, h, u})
				meet, _, e := ideal.Meet(r, f, h, enough)
				if !c || e != api.OK {
					continue
				}
				want, _, e := ideal.Meet(r, first.g, other.g, enough)
				of, d := asked(t, question{"Contract", r, meet, u})
				if d && e == api.OK {
					met++
					if !areEqualLists(of.g, want) {
						t.Fatalf("S1: %s and %s by %v in %v: %s, not %s", printedList(r, f), printedList(r, h), u, r, printedList(r, of.g), printedList(r, want))
					}
				}
			}
		}
	}
	if tried < 150 || met < 80 {
		t.Errorf("only %d samples, and %d intersections", tried, met)
	}
}

// raisedTo is h to the power of s.
func raisedTo(t *testing.T, r api.Ring, h []api.Term, s int) []api.Term {
	t.Helper()
	p := constant(rat(1, 1)).terms(r)
	for range s {
		var e api.Errno
		if p, e = poly.Mul(r, p, h); e != api.OK {
			t.Fatal(e)
		}
	}
	return p
}

// The intersection of the two halves is the ideal; with a lesser exponent h does not
// make the first half a part of it.
func TestS4Halves(t *testing.T) {
	t.Parallel()
	s, tried, divided := noise(93), 0, 0
	for n := 1; n <= 5; n++ {
		for _, r := range rings(n) {
			for k := range 25 {
				f := s.sampleIdeal(n, 2)
				if n > 1 && k < 2 {
					f = s.chain(n, s.below(n), 1+s.below(n-1))
				}
				q := question{"Halve", r, s.anyForms(r, f), nil}
				a := q.ask(enough)
				if a.e != api.OK {
					continue
				}
				power := raisedTo(t, r, a.h, a.s)
				all, _, e := basis.Reduced(r, q.f, api.MaxFuel)
				if e != api.OK {
					t.Fatal(e)
				}
				both, _, e := ideal.Meet(r, a.g, append(slices.Clone(q.f), power), enough)
				if e != api.OK {
					continue
				}
				tried++
				if !areEqualLists(both, all) {
					t.Fatalf("S4: %s in %v is not the intersection of %s and of that with %s", printedList(r, q.f), r, printedList(r, a.g), printed(r, power))
				}
				if a.s > 0 {
					divided++
					expectLeast(t, q, a)
				}
			}
		}
	}
	if tried < 120 || divided < 40 {
		t.Errorf("only %d samples, and %d with a division", tried, divided)
	}
}

// expectLeast expects that s is the least exponent of h.
func expectLeast(t *testing.T, q question, a reply) {
	t.Helper()
	for s, want := range map[int]bool{a.s - 1: false, a.s: true} {
		product, _, e := ideal.Product(q.r, a.g, [][]api.Term{raisedTo(t, q.r, a.h, s)}, api.MaxFuel)
		if e != api.OK || isWithin(t, q.r, product, q.f) != want {
			t.Fatalf("S2: %s in %v: %s by %s to the power of %d, %d", printedList(q.r, q.f), q.r, printedList(q.r, a.g), printed(q.r, a.h), s, e)
		}
	}
}

// Only the ideal counts: not its polynomials, their order, nor what is added of their
// multiples; and the contraction is the same in each order.
func TestSameIdeals(t *testing.T) {
	t.Parallel()
	s, tried := noise(94), 0
	for n := 1; n <= 5; n++ {
		for range 30 {
			f, u := s.sampleIdeal(n, 2), s.set(n)
			r := rings(n)[s.below(len(rings(n)))]
			want, ok := asked(t, question{"Contract", lex(n), termsOf(lex(n), f), u})
			if !ok {
				continue
			}
			more := slices.Clone(f)
			for _, p := range f {
				more = append(more, times(p, s.sample(n, 2, 2, 2)))
			}
			if len(f) > 1 {
				more = append(more, plus(f[0], f[1]))
			}
			for _, h := range [][]sum{f, s.shuffled(slices.Clone(f)), s.shuffled(more)} {
				a, ok := asked(t, question{"Contract", r, termsOf(r, h), u})
				if !ok {
					continue
				}
				tried++
				g, _, e := basis.Reduced(r, want.g, api.MaxFuel)
				if e != api.OK || !areEqualLists(a.g, g) {
					t.Fatalf("S1: %s by %v in %v: %s, not %s", printedList(r, termsOf(r, h)), u, r, printedList(r, a.g), printedList(r, g))
				}
			}
		}
	}
	if tried < 200 {
		t.Errorf("only %d samples", tried)
	}
}

// The degree is the same for the contraction and in each order; it is finite by the
// maximal independent set, and 0 just if the contraction is the whole ring.
func TestS3Contractions(t *testing.T) {
	t.Parallel()
	s, tried, finite := noise(95), 0, 0
	for n := 1; n <= 5; n++ {
		for _, r := range rings(n) {
			for range 25 {
				f, u := s.anyForms(r, s.sampleIdeal(n, 2)), s.set(n)
				degree, a := asked(t, question{"Degree", r, f, u})
				contraction, b := asked(t, question{"Contract", r, f, u})
				other, c := asked(t, question{"Degree", rings(n)[s.below(len(rings(n)))], f, u})
				if !(a && b && c) {
					continue
				}
				same, ok := asked(t, question{"Degree", r, contraction.g, u})
				if ok && (same.n != degree.n || same.e != degree.e) || other.n != degree.n || other.e != degree.e {
					t.Fatalf("S3: %s by %v in %v: %v, not %v, or %v", printedList(r, f), u, r, degree, same, other)
				}
				tried++
				if isOne(contraction.g) != (degree.n == 0 && degree.e == api.OK) {
					t.Fatalf("S3: %s by %v in %v: %v, and %s", printedList(r, f), u, r, degree, printedList(r, contraction.g))
				}
				half, ok := asked(t, question{"Halve", r, f, nil})
				if !ok || half.e != api.OK {
					continue
				}
				if of, ok := asked(t, question{"Degree", r, f, half.u}); ok {
					finite++
					if of.e != api.OK || of.n == 0 {
						t.Fatalf("S3: %s by %v in %v: %v", printedList(r, f), half.u, r, of)
					}
				}
			}
		}
	}
	if tried < 150 || finite < 80 {
		t.Errorf("only %d samples, and %d by the maximal independent set", tried, finite)
	}
}

// With more fuel the result is the same, and correspondingly more remains.
func TestMoreFuel(t *testing.T) {
	t.Parallel()
	s := noise(96)
	for _, r := range allRings() {
		for range 4 {
			f, u := s.anyForms(r, s.sampleIdeal(len(r.Names), 2)), s.set(len(r.Names))
			for _, call := range calls() {
				q := question{call, r, f, u}
				want := q.ask(300)
				if want.e == api.ErrFuel {
					continue
				}
				for _, more := range []int{1, 100, api.MaxFuel - 300} {
					a := q.ask(300 + more)
					if a.e == api.OK {
						a.left -= more
					}
					if !areSameReplies(a, want) {
						t.Fatalf("%s of %s in %v with %d more: %v, not %v", call, printedList(r, f), r, more, a, want)
					}
				}
			}
		}
	}
}
