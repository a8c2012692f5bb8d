package reduce_test

import (
	"math/big"
	"testing"

	"primrose/api"
	"primrose/reduce"
)

// taken is the answer of DivMod with all fuel.
func taken(t *testing.T, r api.Ring, p []api.Term, l [][]api.Term) answer {
	t.Helper()
	q, rest, left, e := reduce.DivMod(r, p, l, api.MaxFuel)
	if e != api.OK || len(q) != len(l) {
		t.Fatalf("O4: %s by %s: %d quotients, %d", printed(r, p), printedList(r, l), len(q), e)
	}
	return answer{sumsOf(q), sumOf(rest), left, e}
}

// expectTheorem holds what is true of each division.
func expectTheorem(t *testing.T, r api.Ring, p sum, l []sum, a answer) {
	t.Helper()
	total := a.rest
	for i, f := range l {
		product := times(a.q[i], f)
		total = plus(total, product)
		if len(product) > 0 && cmpKeys(r, lead(r, product), lead(r, p)) > 0 {
			t.Fatalf("O4: the leading monomial of product %d is greater than that of %v", i, p)
		}
		for k := range a.rest {
			if len(f) == 0 {
				continue
			}
			if _, ok := k.over(lead(r, f)); ok {
				t.Fatalf("O4: the leading monomial of element %d divides one of the remainder %v", i, a.rest)
			}
		}
		expectFirst(t, r, l[:i], f, a.q[i])
	}
	if !isSame(total, p) {
		t.Fatalf("O4: %v by %v in %v: the sum is %v", p, l, r, total)
	}
	if len(a.rest) > 0 && cmpKeys(r, lead(r, a.rest), lead(r, p)) > 0 {
		t.Fatalf("O4: the leading monomial of the remainder is greater than that of %v", p)
	}
}

// expectFirst expects that no earlier element would have fit where f did.
func expectFirst(t *testing.T, r api.Ring, earlier []sum, f, q sum) {
	t.Helper()
	for k := range q {
		for _, g := range earlier {
			if len(g) == 0 {
				continue
			}
			if _, ok := k.times(lead(r, f)).over(lead(r, g)); ok {
				t.Fatalf("O4: an element before %v fits too", f)
			}
		}
	}
}

func TestO4Divisions(t *testing.T) {
	s := noise(11)
	for _, r := range allRings() {
		n := len(r.Names)
		for k := range 120 {
			l := s.samples(k%6, n, 5, 3, 1+k/5)
			p := s.multiple(n, l, 3)
			expectTheorem(t, r, p, l, taken(t, r, s.anyForm(r, p), s.anyForms(r, l)))
		}
	}
}

// With more fuel the results are the same.
func TestO4MoreFuel(t *testing.T) {
	s := noise(12)
	for _, r := range allRings() {
		n := len(r.Names)
		for k := range 15 {
			l := s.samples(1+k%4, n, 4, 3, 5)
			p, f := s.anyForm(r, s.multiple(n, l, 3)), s.anyForms(r, l)
			all := taken(t, r, p, f)
			steps := api.MaxFuel - all.left
			for more := range 5 {
				all.left = more
				expectAnswer(t, r, p, f, steps+more, all)
			}
			for less := 1; less <= min(3, steps); less++ {
				expectError(t, r, p, f, steps-less, api.ErrFuel)
			}
		}
	}
}

// What becomes of a monomial does not depend on the other ones, so that the
// quotients and the remainder of a sum are the sums of both.
func TestO4Sums(t *testing.T) {
	s := noise(13)
	for _, r := range allRings() {
		n := len(r.Names)
		for k := range 20 {
			l := s.samples(1+k%4, n, 4, 3, 5)
			f := termsOf(r, l)
			p, q := s.multiple(n, l, 3), s.multiple(n, l, 3)
			c := s.fraction(20)
			a, b := taken(t, r, p.terms(r), f), taken(t, r, q.terms(r), f)
			both := taken(t, r, s.anyForm(r, plus(times(p, constant(c)), q)), f)
			for i := range l {
				if !isSame(both.q[i], plus(times(a.q[i], constant(c)), b.q[i])) {
					t.Fatalf("O4: quotient %d of a sum: %v", i, both.q[i])
				}
			}
			if !isSame(both.rest, plus(times(a.rest, constant(c)), b.rest)) {
				t.Fatalf("O4: the remainder of a sum: %v", both.rest)
			}
		}
	}
}

// What remains leaves itself, without a step; and elements times constants leave
// the same.
func TestO4Remainders(t *testing.T) {
	s := noise(14)
	for _, r := range allRings() {
		n := len(r.Names)
		for k := range 20 {
			l := s.samples(1+k%4, n, 4, 3, 5)
			p := s.multiple(n, l, 3)
			a := taken(t, r, p.terms(r), termsOf(r, l))
			rest, left, e := reduce.Rem(r, a.rest.terms(r), termsOf(r, l), 0)
			if e != api.OK || left != 0 || !isForm(r, rest, a.rest) {
				t.Fatalf("O4: Rem of %v by %v: %d", a.rest, l, e)
			}
			for i, f := range l {
				c := s.fraction(30)
				l[i] = times(f, constant(c))
				a.q[i] = times(a.q[i], constant(new(big.Rat).Inv(c)))
			}
			expectAnswer(t, r, p.terms(r), s.anyForms(r, l), api.MaxFuel, a)
		}
	}
}

// The S-polynomial of two elements is in their ideal: here by its division by a
// basis of it, which leaves nothing.
func TestO4Bases(t *testing.T) {
	r := lex(2)
	basis := parsedList(t, r, "y^2 - 1; x - y")
	for _, text := range []string{"x*y - 1", "y^2 - 1", "x^2 - 1", "x^3 - y", "x^5*y^3 - 1"} {
		rest, _, e := reduce.Rem(r, parsed(t, r, text), basis, 99)
		if e != api.OK || len(rest) > 0 {
			t.Errorf("O4: Rem of %s: %s, %d", text, printed(r, rest), e)
		}
	}
	p, e := reduce.Spoly(r, basis[0], basis[1])
	if e != api.OK {
		t.Fatalf("O3: %d", e)
	}
	if rest, _, e := reduce.Rem(r, p, basis, 99); e != api.OK || len(rest) > 0 {
		t.Errorf("O4: Rem of Spoly: %s, %d", printed(r, rest), e)
	}
	rest, _, e := reduce.Rem(r, parsed(t, r, "x^2*y + 3"), basis, 99)
	if e != api.OK || printed(r, rest) != "y + 3" {
		t.Errorf("O4: Rem of x^2*y + 3: %s, %d", printed(r, rest), e)
	}
}
