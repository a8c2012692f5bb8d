package ideal_test

import (
	"slices"
	"testing"

	"primrose/api"
)

func TestQ4Examples(t *testing.T) {
	expectExamples(t, "Meet", lex(2), []example{
		// Without a common divisor, and with one.
		{f: "x", h: "y", g: "x*y", steps: 4}, {f: "x - y", h: "x + y", g: "x^2 - y^2", steps: 14}, {f: "x; y", h: "x - 1; y", g: "y; x^2 - x", steps: 36},
		{f: "x^2*y", h: "x*y^2", g: "x^2*y^2", steps: 4}, {f: "x^2 - y^2", h: "x^2 + 2*x*y + y^2", g: "x^3 + x^2*y - x*y^2 - y^3", steps: 16},
		// Nothing, and 0.
		{}, {f: "x"}, {h: "x; y", steps: 1}, {f: "x; y", steps: 1}, {f: "0", h: "x"}, {f: "x", h: "0; 0"}, {f: "0; x", h: "0; y; 0", g: "x*y", steps: 4},
		// The whole ring.
		{f: "1", h: "x; y", g: "y; x", steps: 13}, {f: "x; y", h: "-2", g: "y; x", steps: 11}, {f: "1", h: "1", g: "1", steps: 3}, {f: "5", g: ""},
		// Equal ones, and one within the other.
		{f: "x", h: "x", g: "x", steps: 4}, {f: "x; y", h: "x; y", g: "y; x", steps: 20},
		{f: "x", h: "x^2", g: "x^2", steps: 4}, {f: "x^2; x*y; y^2", h: "x", g: "x*y; x^2", steps: 19},
	})
}

// What f is multiplied by is another polynomial than what h is, and f comes first:
// both show in the number of steps.
func TestQ4Order(t *testing.T) {
	s, different := noise(40), 0
	for _, r := range rings(2) {
		for k := range 30 {
			f, h := s.samples(1+k%2, 2, 3, 3, 2), s.samples(2, 2, 2, 3, 2)
			a := expectWords(t, question{"Meet", r, s.anyForms(r, f), s.anyForms(r, h), 0}, 400)
			b := expectWords(t, question{"Meet", r, s.anyForms(r, h), s.anyForms(r, f), 0}, 400)
			if a.e == api.OK && b.e == api.OK {
				if !slices.EqualFunc(a.g, b.g, isSame) {
					t.Fatalf("Q4: %v and %v have two intersections: %v, %v", f, h, a.g, b.g)
				}
				if a.left != b.left {
					different++
				}
			}
		}
	}
	if different < 20 {
		t.Errorf("only %d samples tell the order", different)
	}
}

// monomial is one, as a polynomial.
func monomial(k key) sum {
	return sum{k: rat(1, 1)}
}

// monomials makes some, each with exponents below high.
func (s *noise) monomials(count, n, high int) []key {
	var l []key
	for range count {
		var k key
		for i := range n {
			k[i] = s.below(high)
		}
		l = append(l, k)
	}
	return l
}

// leastOf are the monomials that generate the same ideal as l, in the order of r,
// as polynomials.
func leastOf(r api.Ring, l []key) []sum {
	l = slices.Clone(l)
	slices.SortFunc(l, func(a, b key) int { return cmpKeys(r, a, b) })
	l = slices.Compact(l)
	var least []sum
	for _, k := range l {
		isMultiple := func(m key) bool {
			_, ok := k.over(m)
			return ok && k != m
		}
		if !slices.ContainsFunc(l, isMultiple) {
			least = append(least, monomial(k))
		}
	}
	return least
}

// Ideals of monomials: all their intersections, quotients, saturations, elimination
// ideals, sums and products are found by their exponents alone.
func TestMonomials(t *testing.T) {
	s := noise(41)
	for _, r := range allRings() {
		n := len(r.Names)
		for range 6 {
			f, h := s.monomials(1+s.below(3), n, 4), s.monomials(1+s.below(2), n, 3)
			expectMonomials(t, s.below(n+1), r, f, h)
		}
	}
}

func expectMonomials(t *testing.T, k int, r api.Ring, f, h []key) {
	t.Helper()
	var products, meets, left []key
	for _, a := range f {
		for _, b := range h {
			products = append(products, a.times(b))
			meets = append(meets, lcmOf(a, b))
		}
		if !containsFirst(monomial(a), k) {
			left = append(left, a)
		}
	}
	quotient := []key{{}}
	for _, b := range h {
		quotient = leastMeets(quotient, divided(f, b))
	}
	saturation, last := []key(nil), 0
	for s := 0; ; s++ {
		last = s
		saturation = f
		for range s {
			saturation = divided(saturation, h[0])
		}
		if sameIdeal(r, saturation, divided(saturation, h[0])) {
			break
		}
	}
	narrow := len(r.Names) < api.MaxVars
	for _, x := range []struct {
		call string
		want []key
		is   bool
	}{
		{"Sum", slices.Concat(f, h), true}, {"Product", products, true}, {"Meet", meets, narrow}, {"Eliminate", left, true},
		{"Quotient", quotient, narrow}, {"Saturate", saturation, narrow},
	} {
		q := question{x.call, r, termsOf(r, asSums(f)), termsOf(r, asSums(h)), k}
		if hasOne(x.call) {
			q.h = q.h[:1]
		}
		a := q.ask(api.MaxFuel)
		switch {
		case !x.is && a.e != api.ErrLong, x.is && (a.e != api.OK || !areForms(r, a.g, leastOf(r, x.want))):
			t.Fatalf("%s of %v and %v, %d in %v: %s, %d, not %v", x.call, f, h, k, r, printedList(r, a.g), a.e, x.want)
		case x.is && x.call == "Saturate" && a.s != last:
			t.Fatalf("Q6: %v by %v takes %d, not %d", f, h[0], a.s, last)
		}
	}
}

func asSums(l []key) []sum {
	var all []sum
	for _, k := range l {
		all = append(all, monomial(k))
	}
	return all
}

// divided are the monomials f, each without what it has in common with b.
func divided(f []key, b key) []key {
	var l []key
	for _, a := range f {
		m, _ := a.over(gcdOf(a, b))
		l = append(l, m)
	}
	return l
}

// leastMeets are the least common multiples of each of two monomials.
func leastMeets(f, h []key) []key {
	var l []key
	for _, a := range f {
		for _, b := range h {
			l = append(l, lcmOf(a, b))
		}
	}
	return l
}

func sameIdeal(r api.Ring, f, h []key) bool {
	return slices.EqualFunc(leastOf(r, f), leastOf(r, h), isSame)
}
