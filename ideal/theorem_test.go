package ideal_test

import (
	"slices"
	"testing"

	"primrose/api"
	"primrose/basis"
)

// enough is the fuel for most samples.
const enough = 400

// asked is what a call answers, and whether it does: nothing but the fuel may be
// missing.
func asked(t *testing.T, q question) (a reply, ok bool) {
	t.Helper()
	a = q.ask(enough)
	if a.e != api.OK && a.e != api.ErrFuel {
		t.Fatalf("%s of %s and %s: %d", q.call, printedList(q.r, q.f), printedList(q.r, q.h), a.e)
	}
	return a, a.e == api.OK
}

// expectWithin expects that the ideal of f is contained in that of h, by Subset, and
// by the words.
func expectWithin(t *testing.T, r api.Ring, f, h [][]api.Term) {
	t.Helper()
	q := question{"Subset", r, f, h, 0}
	if a := q.ask(api.MaxFuel); a.e != api.OK || !a.is {
		t.Fatalf("Q7: %s in %v is not in %s: %d", printedList(r, f), r, printedList(r, h), a.e)
	}
	g := listOf(r, sumsOf(h)) // a basis
	for _, p := range f {
		c := &words{left: 1 << 40}
		if rest := c.rest(sumOf(p), g); len(rest) > 0 {
			t.Fatalf("Q7: %v remains of %s in %v by %s", rest, printed(r, p), r, printedList(r, h))
		}
	}
}

// expectReducedBasis expects that an answer is the reduced basis of itself.
func expectReducedBasis(t *testing.T, r api.Ring, g [][]api.Term) {
	t.Helper()
	same, _, e := basis.Reduced(r, g, api.MaxFuel)
	if e != api.OK || !areEqualLists(same, g) {
		t.Fatalf("Q7: the basis of %s in %v is %s, %d", printedList(r, g), r, printedList(r, same), e)
	}
}

// theorem is what the theorem is tried with.
type theorem struct {
	r    api.Ring
	f, h [][]api.Term
}

// samplesOfTheorem makes small polynomials in the rings that have a wider one.
func samplesOfTheorem(seed, each int) []theorem {
	s, all := noise(seed), []theorem(nil)
	for n := 1; n <= 5; n++ {
		for _, r := range rings(n) {
			for range each {
				q := s.sampleQuestion("Meet", r, 1)
				all = append(all, theorem{r, q.f, q.h})
			}
		}
	}
	return all
}

// The product is contained in the intersection, that in both ideals, and both in the
// sum.
func TestQ7Inclusions(t *testing.T) {
	t.Parallel()
	tried := 0
	for _, x := range samplesOfTheorem(90, 14) {
		product, a := asked(t, question{"Product", x.r, x.f, x.h, 0})
		meet, b := asked(t, question{"Meet", x.r, x.f, x.h, 0})
		sum, c := asked(t, question{"Sum", x.r, x.f, x.h, 0})
		f, d := asked(t, question{"Sum", x.r, x.f, nil, 0})
		h, e := asked(t, question{"Sum", x.r, nil, x.h, 0})
		if !(a && b && c && d && e) {
			continue
		}
		tried++
		for _, g := range [][][]api.Term{product.g, meet.g, sum.g} {
			expectReducedBasis(t, x.r, g)
		}
		expectWithin(t, x.r, product.g, meet.g)
		expectWithin(t, x.r, meet.g, f.g)
		expectWithin(t, x.r, meet.g, h.g)
		expectWithin(t, x.r, x.f, sum.g)
		expectWithin(t, x.r, x.h, sum.g)
		// With the other ideal first, and with bases of both, they are the same.
		for _, q := range []question{{"Meet", x.r, x.h, x.f, 0}, {"Meet", x.r, f.g, h.g, 0}} {
			if a, ok := asked(t, q); ok && !areEqualLists(a.g, meet.g) {
				t.Fatalf("Q7: %s and %s, not %s", printedList(x.r, a.g), printedList(x.r, meet.g), printedList(x.r, x.f))
			}
		}
	}
	if tried < 150 {
		t.Errorf("only %d samples", tried)
	}
}

// The product of the quotient and its divisor is contained in the ideal, and the
// ideal in the quotient.
func TestQ7Quotients(t *testing.T) {
	t.Parallel()
	tried := 0
	for _, x := range samplesOfTheorem(91, 14) {
		quotient, a := asked(t, question{"Quotient", x.r, x.f, x.h, 0})
		f, b := asked(t, question{"Sum", x.r, x.f, nil, 0})
		if !(a && b) {
			continue
		}
		product, ok := asked(t, question{"Product", x.r, quotient.g, x.h, 0})
		if !ok {
			continue
		}
		tried++
		expectReducedBasis(t, x.r, quotient.g)
		expectWithin(t, x.r, product.g, f.g)
		expectWithin(t, x.r, f.g, quotient.g)
	}
	if tried < 100 {
		t.Errorf("only %d samples", tried)
	}
}

// The quotient by a sum is the intersection of the quotients.
func TestQ7QuotientBySum(t *testing.T) {
	t.Parallel()
	tried := 0
	for k, x := range samplesOfTheorem(92, 14) {
		cut := k % (len(x.h) + 1)
		sum, a := asked(t, question{"Sum", x.r, x.h[:cut], x.h[cut:], 0})
		all, b := asked(t, question{"Quotient", x.r, x.f, sum.g, 0})
		first, c := asked(t, question{"Quotient", x.r, x.f, x.h[:cut], 0})
		second, d := asked(t, question{"Quotient", x.r, x.f, x.h[cut:], 0})
		if !(a && b && c && d) {
			continue
		}
		if meet, ok := asked(t, question{"Meet", x.r, first.g, second.g, 0}); ok {
			tried++
			if !areEqualLists(meet.g, all.g) {
				t.Fatalf("Q7: %s by %s: %s, not %s", printedList(x.r, x.f), printedList(x.r, sum.g), printedList(x.r, all.g), printedList(x.r, meet.g))
			}
		}
	}
	if tried < 100 {
		t.Errorf("only %d samples", tried)
	}
}

// The elimination ideal is contained in the ideal, and has none of the variables.
// With more variables it is contained in that with fewer.
func TestQ7Elimination(t *testing.T) {
	t.Parallel()
	tried := 0
	for _, x := range samplesOfTheorem(93, 14) {
		last, ok := asked(t, question{"Sum", x.r, x.f, nil, 0})
		if !ok {
			continue
		}
		for k := range len(x.r.Names) + 1 {
			a, ok := asked(t, question{"Eliminate", x.r, x.f, nil, k})
			if !ok {
				break
			}
			tried++
			expectReducedBasis(t, x.r, a.g)
			expectWithin(t, x.r, a.g, last.g)
			if slices.ContainsFunc(sumsOf(a.g), func(p sum) bool { return containsFirst(p, k) }) {
				t.Fatalf("Q3: %s for %d", printedList(x.r, a.g), k)
			}
			last = a
		}
	}
	if tried < 500 {
		t.Errorf("only %d samples", tried)
	}
}

// The saturation contains the ideal, its product with p to the power of s is
// contained in it, and s is the least such number. Divided by p it is the same.
func TestQ6Least(t *testing.T) {
	t.Parallel()
	tried, greater := 0, 0
	for _, x := range samplesOfTheorem(94, 14) {
		if len(x.h) == 0 {
			continue
		}
		p := x.h[:1]
		a, ok := asked(t, question{"Saturate", x.r, x.f, p, 0})
		f, both := asked(t, question{"Sum", x.r, x.f, nil, 0})
		if !ok || !both {
			continue
		}
		tried++
		expectReducedBasis(t, x.r, a.g)
		expectWithin(t, x.r, f.g, a.g)
		if again, ok := asked(t, question{"Quotient", x.r, a.g, p, 0}); ok && !areEqualLists(again.g, a.g) {
			t.Fatalf("Q6: %s by %s: %s", printedList(x.r, x.f), printedList(x.r, p), printedList(x.r, a.g))
		}
		products := a.g
		for s := range a.s + 1 {
			is, ok := asked(t, question{"Subset", x.r, products, f.g, 0})
			if ok && is.is != (s == a.s) {
				t.Fatalf("Q6: %s by %s: %d, not %d", printedList(x.r, x.f), printedList(x.r, p), a.s, s)
			}
			next, ok := asked(t, question{"Product", x.r, products, p, 0})
			if !ok {
				break
			}
			products = next.g
		}
		if a.s > 0 {
			greater++
		}
	}
	if tried < 100 || greater < 30 {
		t.Errorf("only %d samples, and %d with s greater than 0", tried, greater)
	}
}

// With more fuel the result is the same, and correspondingly more remains.
func TestQ7MoreFuel(t *testing.T) {
	t.Parallel()
	for _, call := range calls() {
		s := noise(95)
		for _, r := range append(append(rings(2), rings(3)...), rings(5)...) {
			for range 10 {
				q := s.sampleQuestion(call, r, 3)
				a, ok := asked(t, q)
				if !ok {
					continue
				}
				want := answer{g: sumsOf(a.g), is: a.is, s: a.s}
				for _, more := range []int{0, 1, 60, api.MaxFuel - enough + a.left} {
					want.left = more
					expect(t, q, enough-a.left+more, want)
				}
				if a.left < enough {
					expect(t, q, enough-1-a.left, answer{e: api.ErrFuel})
				}
			}
		}
	}
}
