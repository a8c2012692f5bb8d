package stair_test

import (
	"slices"
	"testing"

	"primrose/api"
	"primrose/basis"
	"primrose/ideal"
	"primrose/reduce"
	"primrose/stair"
)

// enough is the fuel for most samples.
const enough = 400

// dimOf is what Dim answers, and whether it does: nothing but the fuel may be missing.
func dimOf(t *testing.T, r api.Ring, f [][]api.Term) (dim int, ok bool) {
	t.Helper()
	dim, _, e := stair.Dim(r, f, enough)
	if e != api.OK && e != api.ErrFuel {
		t.Fatalf("R1: %s in %v: %d", printedList(r, f), r, e)
	}
	return dim, e == api.OK
}

// sampleOfTheorem makes polynomials whose basis is found soon.
func (s *noise) sampleOfTheorem(r api.Ring) [][]api.Term {
	for {
		f := s.anyForms(r, s.sampleIdeal(len(r.Names), 2))
		if _, _, e := stair.Dim(r, f, 60); e == api.OK {
			return f
		}
	}
}

// The dimension does not depend on the order, and neither does the number of
// monomials below.
func TestR4Orders(t *testing.T) {
	t.Parallel()
	s, tried := noise(90), 0
	for n := 1; n <= 6; n++ {
		for range 40 {
			f := s.sampleOfTheorem(lex(n))
			want, _ := dimOf(t, lex(n), f)
			below := ask("Below", lex(n), f, enough)
			for _, r := range rings(n) {
				dim, ok := dimOf(t, r, f)
				if !ok {
					continue
				}
				tried++
				if a := ask("Below", r, f, enough); dim != want || a.e != below.e || len(a.below) != len(below.below) {
					t.Fatalf("R4: %s in %v has the dimension %d, not %d: %v, not %v", printedList(r, f), r, dim, want, a, below)
				}
			}
		}
	}
	if tried < 800 {
		t.Errorf("only %d samples", tried)
	}
}

// Nor does it depend on which variable is the first one.
func TestR4Names(t *testing.T) {
	t.Parallel()
	s, tried := noise(91), 0
	for n := 2; n <= 6; n++ {
		for _, r := range rings(n) {
			for range 8 {
				f := s.sampleOfTheorem(r)
				want, _ := dimOf(t, r, f)
				reversed := sumsOf(f)
				for k, p := range reversed {
					reversed[k] = sum{}
					for e, c := range p {
						slices.Reverse(e[:n])
						reversed[k].add(e, c)
					}
				}
				if dim, ok := dimOf(t, r, termsOf(r, reversed)); ok {
					tried++
					if dim != want {
						t.Fatalf("R4: %s in %v has the dimension %d, reversed %d", printedList(r, f), r, want, dim)
					}
				}
			}
		}
	}
	if tried < 150 {
		t.Errorf("only %d samples", tried)
	}
}

// The dimension does not grow with a polynomial more.
func TestR4OneMore(t *testing.T) {
	t.Parallel()
	s, tried, less := noise(92), 0, 0
	for _, r := range allRings() {
		for range 25 {
			f := s.sampleOfTheorem(r)
			p := s.sample(len(r.Names), 1+s.below(3), 3, 3)
			before, _ := dimOf(t, r, f)
			after, ok := dimOf(t, r, append(slices.Clone(f), s.anyForm(r, p)))
			if !ok {
				continue
			}
			tried++
			if after < before {
				less++
			}
			if after > before {
				t.Fatalf("R4: %s in %v has the dimension %d, with %v %d", printedList(r, f), r, before, p, after)
			}
		}
	}
	if tried < 500 || less < 100 {
		t.Errorf("only %d samples, and %d of them with a smaller dimension", tried, less)
	}
}

// The dimension of an intersection is the greater one of both. If there are finitely
// many monomials below, those of the sum and of the intersection are together as many
// as those of both.
func TestR4Intersections(t *testing.T) {
	t.Parallel()
	s, tried, counted := noise(93), 0, 0
	for n := 1; n <= 5; n++ {
		for _, r := range rings(n) {
			for range 30 {
				f, h := s.sampleOfTheorem(r), s.sampleOfTheorem(r)
				meet, _, e := ideal.Meet(r, f, h, enough)
				if e != api.OK {
					continue
				}
				tried++
				of, _ := dimOf(t, r, meet)
				first, _ := dimOf(t, r, f)
				second, _ := dimOf(t, r, h)
				if of != max(first, second) {
					t.Fatalf("R4: %s and %s in %v: %d, not the greater one of %d and %d", printedList(r, f), printedList(r, h), r, of, first, second)
				}
				both := slices.Concat(f, h)
				if _, ok := dimOf(t, r, both); ok && of <= 0 {
					counted++
					if number(t, r, meet)+number(t, r, both) != number(t, r, f)+number(t, r, h) {
						t.Fatalf("R3: below %s and %s in %v", printedList(r, f), printedList(r, h), r)
					}
				}
			}
		}
	}
	if tried < 250 || counted < 60 {
		t.Errorf("only %d samples, and %d with finitely many monomials", tried, counted)
	}
}

// number is how many monomials are below.
func number(t *testing.T, r api.Ring, f [][]api.Term) int {
	t.Helper()
	a := ask("Below", r, f, enough)
	if a.e != api.OK {
		t.Fatalf("R3: %s in %v: %d", printedList(r, f), r, a.e)
	}
	return len(a.below)
}

// contracted is a basis of the polynomials in an ideal that have the variables of a
// set alone, in a ring whose last variables these are, and whether the fuel is enough.
func contracted(t *testing.T, r api.Ring, f [][]api.Term, set []int) (g [][]api.Term, ok bool) {
	t.Helper()
	n := len(r.Names)
	places := slices.Concat(allBut(n, set...), set)
	last := api.Ring{Order: api.Grevlex}
	for _, i := range places {
		last.Names = append(last.Names, r.Names[i])
	}
	moved := sumsOf(f)
	for k, p := range moved {
		moved[k] = sum{}
		for e, c := range p {
			var to key
			for place, i := range places {
				to[place] = e[i]
			}
			moved[k].add(to, c)
		}
	}
	g, _, e := ideal.Eliminate(last, termsOf(last, moved), n-len(set), enough)
	if e != api.OK && e != api.ErrFuel {
		t.Fatalf("%s in %v: %d", printedList(r, f), r, e)
	}
	return g, e == api.OK
}

// No polynomial in the ideal, except 0, has the variables of the maximal independent
// set alone; but for each set with more variables there is one.
func TestR4Contractions(t *testing.T) {
	t.Parallel()
	s, tried, greater := noise(94), 0, 0
	for _, r := range allRings() {
		for range 10 {
			f := s.sampleOfTheorem(r)
			a := ask("Independent", r, f, enough)
			if a.e == api.OK {
				if g, ok := contracted(t, r, f, a.set); ok {
					tried++
					if len(g) > 0 {
						t.Fatalf("R4: %s in %v has %s, in spite of %v", printedList(r, f), r, printedList(r, g), a.set)
					}
				}
			}
			dim, _ := dimOf(t, r, f)
			for _, set := range allSets(len(r.Names)) {
				if len(set) != dim+1 {
					continue
				}
				if g, ok := contracted(t, r, f, set); ok {
					greater++
					if len(g) == 0 {
						t.Fatalf("R1: %s in %v has the dimension %d, in spite of %v", printedList(r, f), r, dim, set)
					}
				}
			}
		}
	}
	if tried < 200 || greater < 400 {
		t.Errorf("only %d samples, and %d sets", tried, greater)
	}
}

// The number of monomials below is finite if and only if the dimension is at most 0.
func TestR4Finite(t *testing.T) {
	t.Parallel()
	s, finite, infinite := noise(95), 0, 0
	for _, r := range allRings() {
		for range 30 {
			f := s.sampleOfTheorem(r)
			dim, _ := dimOf(t, r, f)
			a := ask("Below", r, f, enough)
			if a.e == api.ErrPoint != (dim > 0) || a.e != api.ErrPoint && a.e != api.OK {
				t.Fatalf("R4: %s in %v has the dimension %d: %v", printedList(r, f), r, dim, a)
			}
			if a.e != api.OK {
				infinite++
				continue
			}
			finite++
			if dim < 0 != (len(a.below) == 0) || len(a.below) > 0 && total(a.below[0]) > 0 {
				t.Fatalf("R3: %s in %v: %v", printedList(r, f), r, a)
			}
			expectAscending(t, r, a.below)
			expectStair(t, r, a.below)
			s.expectRemainders(t, r, f, a.below)
		}
	}
	if finite < 200 || infinite < 200 {
		t.Errorf("only %d and %d samples", finite, infinite)
	}
}

// expectRemainders expects that monomials are those of all remainders: the difference
// of each polynomial and a sum of them is in the ideal, but no such sum except 0.
func (s *noise) expectRemainders(t *testing.T, r api.Ring, f [][]api.Term, l [][]int) {
	t.Helper()
	g, left, e := basis.Reduced(r, f, enough)
	if e != api.OK {
		t.Fatalf("the basis of %s in %v: %d", printedList(r, f), r, e)
	}
	rest, _, e := reduce.Rem(r, s.sample(len(r.Names), 6, 5, 3).terms(r), g, left)
	for _, term := range rest {
		if e == api.OK && !slices.ContainsFunc(l, func(e []int) bool { return slices.Equal(e, term.E) }) {
			t.Fatalf("R3: %v remains of %s in %v", term.E, printedList(r, f), r)
		}
	}
	if len(l) == 0 {
		return
	}
	var p []api.Term
	for _, k := range s.places(len(l)) {
		p = append(p, api.Term{C: toRat(s.fraction(3)), E: l[k]})
	}
	p = p[:1+s.below(len(p))]
	if is, _, e := ideal.Member(r, p, g, api.MaxFuel); is || e != api.OK {
		t.Fatalf("R3: %s in %v contains %s: %d", printedList(r, f), r, printed(r, p), e)
	}
}

// expectStair expects that monomials come with all that divide them.
func expectStair(t *testing.T, r api.Ring, l [][]int) {
	t.Helper()
	for _, e := range l {
		for i := range e {
			less := slices.Clone(e)
			less[i] = max(0, e[i]-1)
			if !slices.ContainsFunc(l, func(x []int) bool { return slices.Equal(x, less) }) {
				t.Fatalf("R3: %v without %v in %v", e, less, r)
			}
		}
	}
}

// With more fuel the result is the same, and correspondingly more remains.
func TestMoreFuel(t *testing.T) {
	t.Parallel()
	s := noise(96)
	for _, r := range allRings() {
		for range 5 {
			f := s.sampleOfTheorem(r)
			for _, call := range calls() {
				want := ask(call, r, f, 60)
				for _, more := range []int{1, 100, api.MaxFuel - 60} {
					a := ask(call, r, f, 60+more)
					if a.e == api.OK {
						a.left -= more
					}
					if !areSameReplies(a, want) {
						t.Fatalf("%s of %s in %v with %d more: %v, not %v", call, printedList(r, f), r, more, a, want)
					}
				}
			}
		}
	}
}
