package extend_test

import (
	"slices"
	"testing"

	"primrose/api"
	"primrose/ideal"
	"primrose/stair"
)

func TestS2Examples(t *testing.T) {
	for _, c := range []struct {
		names int
		half
		steps int
	}{
		// Nothing, and points: nothing is divided.
		{1, half{"", x, "1", "", 0}, 0}, {2, half{"0; 0", xy, "1", "", 0}, 0}, {1, half{"2*x - 3", none, "1", "x - 3/2", 0}, 1},
		{2, half{"x; y", none, "1", "y; x", 0}, 6}, {2, half{"x^2; y^3", none, "1", "y^3; x^2", 0}, 6}, {2, half{"x*y - 1; y^2 - 1", none, "1", "y^2 - 1; x - y", 0}, 9},
		// s is 0 with u of some variables, and with h that is not 1.
		{2, half{"x^2 - y", y, "1", "x^2 - y", 0}, 1}, {2, half{"y^2 - x", y, "1", "x - y^2", 0}, 1}, {2, half{"x*y - 1", x, "x", "x*y - 1", 0}, 4},
		{3, half{"x*y - z", []int{0, 2}, "x", "x*y - z", 0}, 4}, {3, half{"x^2*y*z - 1", xy, "x^2*y", "x^2*y*z - 1", 0}, 4},
		// s is 1.
		{2, half{"x*y; x^2", y, "y", "x", 1}, 16}, {2, half{"x*y; y^2", x, "x", "y", 1}, 16}, {3, half{"x*y; x*z", []int{1, 2}, "y*z", "x", 1}, 17},
		{2, half{"x^2*y", x, "x^2", "y", 1}, 7}, {2, half{"x^3*y^2 - x^2*y^2", x, "x^3 - x^2", "y^2", 1}, 8},
		{3, half{"x*y^2*z; x^2*y", []int{0, 2}, "x^3*z", "y", 1}, 17},
		// The same leading coefficient several times counts once: so s may be more.
		{3, half{"x*y; y*z; z*x", x, "x", "z; y", 1}, 42}, {3, half{"x*y; z*y; x^2", y, "y", "z; x", 1}, 42},
		{3, half{"x*y - z; y*z; x^3", y, "y", "z; x", 2}, 149},
		{4, half{"x*y - z; y*z - u; y*u; x^2; z^2; u^2; x*z; x*u; z*u", y, "y", "u; z; x", 3}, 599},
		// Those that differ in a coefficient alone count each.
		{3, half{"x*y - x; y*z - 2*z; x^2; z^2", y, "y^2 - 3*y + 2", "z; x", 1}, 130}, {3, half{"x*y - x; y*z + z; x^2; z^2", y, "y^2 - 1", "z; x", 1}, 123},
		{3, half{"x*y - 1/2*x; y*z - 1/3*z; x^2; z^2", y, "y^2 - 5/6*y + 1/6", "z; x", 1}, 130},
		// What is the leading coefficient in the reordered ring is not the one in r: there
		// it is z^2 + 2*y.
		{3, half{"x*z^2 + 2*x*y; x^2", []int{1, 2}, "y + 1/2*z^2", "x", 1}, 23},
		// Of several sets of the same size the first one.
		{4, half{"x*z; x*u; y*z; y*u", xy, "x*y", "u; z", 1}, 63}, {3, half{"x*y*z", xy, "x*y", "z", 1}, 7}, {4, half{"x*y; z*u", []int{0, 2}, "x*z", "u; y", 1}, 27},
	} {
		if steps := expectHalf(t, lex(c.names), c.half); steps != c.steps {
			t.Errorf("S2: %s takes %d steps, not %d", c.f, steps, c.steps)
		}
	}
}

// The order decides on u, and on the form of h and g.
func TestS2Orders(t *testing.T) {
	for _, c := range []struct {
		order, first int
		half
	}{
		{api.Lex, 0, half{"x^2*y - x*y^3; z*y^2", []int{0, 2}, "x^3*z^2", "y", 1}},
		{api.Grevlex, 0, half{"x^2*y - x*y^3; z*y^2", []int{0, 2}, "x^3*z^2", "y", 1}},
		{api.Lex, 0, half{"x - y^2", []int{1, 2}, "1", "x - y^2", 0}}, {api.Grlex, 0, half{"x - y^2", []int{0, 2}, "1", "y^2 - x", 0}},
		{api.Grevlex, 0, half{"x - y^2", []int{0, 2}, "1", "y^2 - x", 0}}, {api.Block, 1, half{"x - y^2", []int{1, 2}, "1", "x - y^2", 0}}, {api.Block, 2, half{"x - y^2", []int{0, 2}, "1", "y^2 - x", 0}},
		{api.Lex, 0, half{"x*z^2 + 2*x*y; x^2", []int{1, 2}, "y + 1/2*z^2", "x", 1}}, {api.Block, 2, half{"x*z^2 + 2*x*y; x^2", []int{1, 2}, "y + 1/2*z^2", "x", 1}},
		{api.Grlex, 0, half{"x*z^2 + 2*x*y; x^2", []int{1, 2}, "z^2 + 2*y", "x", 1}}, {api.Grevlex, 0, half{"x*z^2 + 2*x*y; x^2", []int{1, 2}, "z^2 + 2*y", "x", 1}},
		{api.Block, 1, half{"x*z^2 + 2*x*y; x^2", []int{1, 2}, "z^2 + 2*y", "x", 1}},
	} {
		expectHalf(t, api.Ring{Names: letters(3), Order: c.order, First: c.first}, c.half)
	}
}

// The whole ring, told by a number and by polynomials whose basis is 1.
func TestS2Whole(t *testing.T) {
	for _, r := range allRings() {
		last := r.Names[len(r.Names)-1]
		for f, steps := range map[string]int{"1": 0, "-5/7": 0, "3; 4": 1, "0; 2": 0, last + "; " + last + " + 1": 3, last + "^2 + 1; " + last: 3, last + "; 1": 1} {
			q := question{"Halve", r, parsedList(t, r, f), nil}
			for _, fuel := range []int{0, 1, 2, 3, 4, 5, 100, api.MaxFuel} {
				want := api.ErrWhole
				if fuel < steps {
					want = api.ErrFuel
				}
				expectNothing(t, q, fuel, want)
				expectWords(t, q, fuel)
			}
		}
	}
}

// chain makes polynomials in n variables other than at such that s is length: times
// that variable each of the first ones is a multiple of the next one, and the last one
// is 0. In the reordered ring the next one is the lesser one.
func (s *noise) chain(n, at, length int) []sum {
	others := allBut(n, at)
	var f []sum
	for k, i := range others {
		p := power(i, 1)
		switch {
		case k < length-1:
			p = minus(times(power(at, 1), p), times(power(others[k+1], 1), constant(s.fraction(3))))
		case k < length:
			p = times(power(at, 1), p)
		}
		f = append(f, p)
		for _, j := range others[:k+1] {
			f = append(f, times(power(i, 1), power(j, 1)))
		}
	}
	return s.shuffled(f)
}

// s is any number, and h the variable alone.
func TestS2Chains(t *testing.T) {
	t.Parallel()
	s := noise(41)
	for n := 2; n <= 4; n++ {
		for _, r := range rings(n) {
			for length := 1; length < n; length++ {
				at := s.below(n)
				var want []sum
				for i := range n {
					if i != at {
						want = append(want, power(i, 1))
					}
				}
				slices.SortFunc(want, func(p, q sum) int { return cmpKeys(r, lead(r, p), lead(r, q)) })
				q := question{"Halve", r, s.anyForms(r, s.chain(n, at, length)), nil}
				a := expectWords(t, q, api.MaxFuel)
				if a.e != api.OK || !slices.Equal(a.u, []int{at}) || !isSame(a.h, power(at, 1)) || a.s != length || !areForms(r, termsOf(r, a.g), want) {
					t.Fatalf("S2: %s in %v: %v", printedList(r, q.f), r, a)
				}
			}
		}
	}
}

// u is the maximal independent set, and g the contraction by it, of the basis and so
// of f itself.
func TestS2Parts(t *testing.T) {
	t.Parallel()
	s, tried := noise(42), 0
	for n := 1; n <= 5; n++ {
		for _, r := range rings(n) {
			for range 15 {
				f := s.anyForms(r, s.sampleIdeal(n, 2))
				a := question{"Halve", r, f, nil}.ask(600)
				if a.e != api.OK {
					continue
				}
				u, _, e := stair.Independent(r, f, api.MaxFuel)
				if e != api.OK || !slices.Equal(a.u, u) {
					t.Fatalf("S2: %s in %v: %v, not %v", printedList(r, f), r, a.u, u)
				}
				if b := (question{"Contract", r, f, u}).ask(api.MaxFuel); b.e != api.OK || !areEqualLists(a.g, b.g) {
					t.Fatalf("S2: %s by %v in %v: %s, not %s", printedList(r, f), u, r, printedList(r, a.g), printedList(r, b.g))
				}
				tried++
				if h := sumOf(a.h); !isSame(withoutThem(h, allBut(n, u...)), h) {
					t.Fatalf("S2: %s in %v: %s has others than %v", printedList(r, f), r, printed(r, a.h), u)
				}
				expectSaturation(t, r, f, a)
			}
		}
	}
	if tried < 100 {
		t.Errorf("only %d samples", tried)
	}
}

// expectSaturation expects that the contraction is the saturation by h, with the least
// exponent.
func expectSaturation(t *testing.T, r api.Ring, f [][]api.Term, a reply) {
	t.Helper()
	g, s, _, e := ideal.Saturate(r, f, a.h, api.MaxFuel)
	if e != api.OK || !areEqualLists(a.g, g) || a.s != s {
		t.Fatalf("S2: %s in %v by %s: %s, %d, not %s, %d: %d", printedList(r, f), r, printed(r, a.h), printedList(r, a.g), a.s, printedList(r, g), s, e)
	}
}

// Divisions of many terms: of products with one that has many terms.
func TestS2ManyTerms(t *testing.T) {
	t.Parallel()
	r := api.Ring{Names: []string{"y", "x"}, Order: api.Lex}
	for _, h := range []sum{power(0, 1), plus(power(0, 2), constant(rat(1, 1))), minus(power(0, 3), times(power(0, 1), constant(rat(2, 3))))} {
		p := sum{}
		for k := range 1500 {
			p.add(key{k % 2, k}, rat(int64(k%7-3), int64(1+k%3)))
		}
		p = plus(p, power(1, 3000))
		f := times(p, h)
		a := question{"Halve", r, [][]api.Term{f.terms(r)}, nil}.ask(api.MaxFuel)
		if a.e != api.OK || !isForm(r, a.h, h) || len(a.g) != 1 || !isSame(sumOf(a.g[0]), monic(r, p)) || a.s != 1 {
			t.Errorf("S2: %v: %s; %d, error %d", h, printed(r, a.h), a.s, a.e)
		}
	}
}
