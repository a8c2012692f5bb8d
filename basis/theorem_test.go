package basis_test

import (
	"math/big"
	"slices"
	"testing"

	"primrose/api"
	"primrose/basis"
	"primrose/reduce"
)

// expectBasis holds what is true of each reduced basis, without the words that it is
// made by.
func expectBasis(t *testing.T, r api.Ring, f, g []sum) {
	t.Helper()
	for i, p := range g {
		first := lead(r, p)
		if p[first].Cmp(rat(1, 1)) != 0 {
			t.Fatalf("P3: the leading coefficient of %v is not 1", p)
		}
		if i > 0 && cmpKeys(r, lead(r, g[i-1]), first) >= 0 {
			t.Fatalf("P3: %v is not behind %v", p, g[i-1])
		}
		for k, q := range g {
			for m := range q {
				if _, ok := m.over(first); ok && i != k {
					t.Fatalf("P3: the leading monomial of %v divides one of %v", p, q)
				}
			}
		}
	}
	c := &reckoning{r: r, left: 1 << 40}
	for _, p := range g {
		c.append(p)
	}
	for k := range g {
		for i := range k {
			if rest := c.rest(c.spoly(pair{i, k}), g); len(rest) > 0 {
				t.Fatalf("P3: %v remains of the pair of %v and %v", rest, g[i], g[k])
			}
		}
	}
	for _, p := range f {
		if rest := c.rest(p, g); len(rest) > 0 {
			t.Fatalf("P3: %v remains of %v", rest, p)
		}
	}
}

// sampleBasis makes polynomials whose basis takes few steps, in any form, and that
// basis.
func (s *noise) sampleBasis(t *testing.T, r api.Ring, digits int) (f []sum, g [][]api.Term) {
	t.Helper()
	for {
		f = s.samples(2+s.below(3), len(r.Names), 3, 3, digits)
		g, _, e := basis.Reduced(r, s.anyForms(r, f), 60)
		if e == api.OK {
			return f, g
		}
		if e != api.ErrFuel {
			t.Fatalf("P1: Reduced of %v: %d", f, e)
		}
	}
}

func TestP3Bases(t *testing.T) {
	s, elements := noise(16), 0
	for _, r := range allRings() {
		for k := range 40 {
			f, g := s.sampleBasis(t, r, 1+k/4)
			expectBasis(t, r, f, sumsOf(g))
			if is, _, e := basis.Is(r, g, api.MaxFuel); !is || e != api.OK {
				t.Fatalf("P2: Is of %s: %t, %d", printedList(r, g), is, e)
			}
			for _, p := range f {
				if rest, _, e := reduce.Rem(r, p.terms(r), g, api.MaxFuel); e != api.OK || len(rest) > 0 {
					t.Fatalf("P3: %v remains of %v, %d", rest, p, e)
				}
			}
			elements += len(g)
		}
	}
	if elements < 2500 {
		t.Errorf("only %d elements", elements)
	}
}

// expectSame expects that polynomials have that reduced basis.
func expectSame(t *testing.T, r api.Ring, f, g [][]api.Term) {
	t.Helper()
	h, _, e := basis.Reduced(r, f, 20000)
	if e != api.OK || !areEqualLists(h, g) {
		t.Fatalf("P3: Reduced of %s in %v: %s, %d, not %s", printedList(r, f), r, printedList(r, h), e, printedList(r, g))
	}
}

// The basis itself has the basis, and so has f in another order, and together with
// sums or multiples of its elements.
func TestP3SameIdeal(t *testing.T) {
	s := noise(17)
	for _, r := range allRings() {
		n := len(r.Names)
		for range 12 {
			f, g := s.sampleBasis(t, r, 3)
			expectSame(t, r, g, g)
			expectSame(t, r, slices.Concat(g, g), g)
			backwards := termsOf(r, f)
			slices.Reverse(backwards)
			expectSame(t, r, backwards, g)
			expectSame(t, r, s.anyForms(r, s.shuffled(f)), g)
			expectSame(t, r, slices.Concat(termsOf(r, s.shuffled(f)), s.anyForms(r, f)), g)
			more := slices.Clone(f)
			for range 2 {
				p, q := f[s.below(len(f))], f[s.below(len(f))]
				more = append(more, plus(p, times(q, constant(s.fraction(5)))), times(p, s.sample(n, 2, 2, 3)))
			}
			expectSame(t, r, s.anyForms(r, s.shuffled(more)), g)
			expectSame(t, r, slices.Concat(g, termsOf(r, s.shuffled(more))), g)
		}
	}
}

// The basis of the basis takes no steps but those of its pairs, and those of their
// divisions, which Is takes too, unless the leading monomials have nothing in common.
func TestP3BasisOfBasis(t *testing.T) {
	s := noise(18)
	for _, r := range allRings() {
		for range 15 {
			_, g := s.sampleBasis(t, r, 3)
			a := expectReckoned(t, r, g, 20000)
			if is := expectIsReckoned(t, r, g, 20000); a.e == api.OK && is.e == api.OK && (!is.is || is.left > a.left) {
				t.Fatalf("P3: of %s %d remain, and %d of Is", printedList(r, g), a.left, is.left)
			}
		}
	}
}

// Each element of the basis is in the ideal: here because f vanishes at points, and
// so does the basis.
func TestP3Points(t *testing.T) {
	s := noise(19)
	for _, r := range allRings() {
		n := len(r.Names)
		for k := range 10 {
			at := make([]*big.Rat, n)
			for i := range at {
				at[i] = rat(int64(s.below(7)-3), int64(1+s.below(2)))
			}
			f := s.samples(2+k%2, n, 3, 2, 3)
			for i, p := range f {
				f[i] = minus(p, constant(value(p, at)))
			}
			g, _, e := basis.Reduced(r, s.anyForms(r, f), 200)
			if e == api.ErrFuel {
				continue
			}
			if e != api.OK {
				t.Fatalf("P1: Reduced of %v: %d", f, e)
			}
			for _, p := range g {
				if value(sumOf(p), at).Sign() != 0 {
					t.Fatalf("P3: %s does not vanish at %v, but %v do", printed(r, p), at, f)
				}
			}
		}
	}
}

// value is what a polynomial is at a point.
func value(p sum, at []*big.Rat) *big.Rat {
	total := new(big.Rat)
	for k, c := range p {
		product := new(big.Rat).Set(c)
		for i, x := range at {
			for range k[i] {
				product.Mul(product, x)
			}
		}
		total.Add(total, product)
	}
	return total
}

// With more fuel the result is the same, and correspondingly more remains.
func TestP3MoreFuel(t *testing.T) {
	s := noise(20)
	for _, r := range allRings() {
		for range 15 {
			f, g := s.sampleBasis(t, r, 3)
			form := s.anyForms(r, f)
			_, left, _ := basis.Reduced(r, form, api.MaxFuel)
			steps := api.MaxFuel - left
			for _, more := range []int{0, 1, 2, 60, 5000} {
				expectReduced(t, r, form, steps+more, answer{g: sumsOf(g), left: more})
			}
			is, left, e := basis.Is(r, form, api.MaxFuel)
			if e != api.OK {
				t.Fatalf("P2: Is of %v: %d", f, e)
			}
			for _, more := range []int{0, 1, 60} {
				expectIs(t, r, form, api.MaxFuel-left+more, answer{is: is, left: more})
			}
			if left < api.MaxFuel {
				expectIs(t, r, form, api.MaxFuel-left-1, answer{e: api.ErrFuel})
			}
		}
	}
}

// A basis for Lex that takes many steps: its first element has the first coordinates
// of the points as its zeros.
func TestP3ManySteps(t *testing.T) {
	r := lex(3)
	f := parsedList(t, r, "x^2 + y + z - 1; x + y^2 + z - 1; x + y + z^2 - 1")
	a := expectReckoned(t, r, f, api.MaxFuel)
	want := sumsOf(parsedList(t, r, "z^6 - 4*z^4 + 4*z^3 - z^2; y*z^2 + 1/2*z^4 - 1/2*z^2; y^2 - y - z^2 + z; x + y + z^2 - 1"))
	if a.e != api.OK || !slices.EqualFunc(a.g, want, isSame) {
		t.Errorf("P1: %s, %d", printedList(r, termsOf(r, a.g)), a.e)
	}
	expectBasis(t, r, sumsOf(f), a.g)
	r = api.Ring{Names: letters(4), Order: api.Grevlex}
	f = parsedList(t, r, "x + y + z + u; x*y + y*z + z*u + u*x; x*y*z + y*z*u + z*u*x + u*x*y; x*y*z*u - 1")
	if a := expectReckoned(t, r, f, api.MaxFuel); a.e != api.OK || len(a.g) != 7 || api.MaxFuel-a.left < 200 {
		t.Errorf("P1: %d elements, %d remain, %d", len(a.g), a.left, a.e)
	}
}
