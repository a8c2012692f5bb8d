package primary_test

import (
	"fmt"
	"slices"
	"strings"
	"testing"

	"primrose/api"
	"primrose/fraction"
	"primrose/notation"
	"primrose/poly"
)

// lex is a ring with the order Lex.
func lex(n int) api.Ring {
	return api.Ring{Names: strings.Split("xyzuvw"[:n], "")}
}

// rings returns the valid rings of n variables, of all orders.
func rings(n int) []api.Ring {
	names := lex(n).Names
	all := []api.Ring{{Names: names, Order: api.Lex}, {Names: names, Order: api.Grlex}, {Names: names, Order: api.Grevlex}}
	for first := 1; first < n; first++ {
		all = append(all, api.Ring{Names: names, Order: api.Block, First: first})
	}
	return all
}

// must is a polynomial that there has to be.
func must(p []api.Term, e api.Errno) []api.Term {
	if e != api.OK {
		panic(fmt.Sprintf("error %d", e))
	}
	return p
}

// number is a polynomial without variables.
func number(r api.Ring, n int) []api.Term {
	return must(poly.Norm(r, []api.Term{{C: fraction.Of(n), E: make([]int, len(r.Names))}}))
}

// variable is the variable i to the power of n.
func variable(r api.Ring, i, n int) []api.Term {
	e := make([]int, len(r.Names))
	e[i] = n
	return []api.Term{{C: fraction.Of(1), E: e}}
}

func plus(r api.Ring, p, q []api.Term) []api.Term {
	return must(poly.Add(r, p, q))
}

func minus(r api.Ring, p, q []api.Term) []api.Term {
	return must(poly.Sub(r, p, q))
}

func times(r api.Ring, l ...[]api.Term) []api.Term {
	product := number(r, 1)
	for _, p := range l {
		product = must(poly.Mul(r, product, p))
	}
	return product
}

// isSame reports whether two plain polynomials are the same.
func isSame(p, q []api.Term) bool {
	return slices.EqualFunc(p, q, func(a, b api.Term) bool {
		return a.C.Num.Neg == b.C.Num.Neg && slices.Equal(a.C.Num.Mag, b.C.Num.Mag) && slices.Equal(a.C.Den, b.C.Den) && slices.Equal(a.E, b.E)
	})
}

// areSame reports whether two lists of plain polynomials are the same.
func areSame(f, g [][]api.Term) bool {
	return slices.EqualFunc(f, g, isSame)
}

// parsed is the polynomial of a text.
func parsed(t *testing.T, r api.Ring, text string) []api.Term {
	t.Helper()
	p, e := notation.Parse(r, text)
	if e != api.OK {
		t.Fatalf("%q: %d", text, e)
	}
	return p
}

// parsedList are the polynomials of a text with semicolons between them.
func parsedList(t *testing.T, r api.Ring, text string) [][]api.Term {
	t.Helper()
	var l [][]api.Term
	if text == "" {
		return nil
	}
	for part := range strings.SplitSeq(text, ";") {
		l = append(l, parsed(t, r, part))
	}
	return l
}

func printed(r api.Ring, p []api.Term) string {
	s, e := notation.Print(r, p)
	if e != api.OK {
		return fmt.Sprintf("error %d", e)
	}
	return s
}

// printedList has semicolons between polynomials.
func printedList(r api.Ring, l [][]api.Term) string {
	var all []string
	for _, p := range l {
		all = append(all, printed(r, p))
	}
	return strings.Join(all, "; ")
}

// printedLists has slashes between lists of polynomials.
func printedLists(r api.Ring, l [][][]api.Term) string {
	var all []string
	for _, f := range l {
		all = append(all, printedList(r, f))
	}
	return strings.Join(all, " / ")
}

// printedComponents has slashes between components, and behind Q a bar and P, if these
// differ.
func printedComponents(r api.Ring, l []api.Component) string {
	var all []string
	for _, x := range l {
		text := printedList(r, x.Q)
		if p := printedList(r, x.P); p != text {
			text += " | " + p
		}
		all = append(all, text)
	}
	return strings.Join(all, " / ")
}

// noise makes numbers that look like chance, the same in each run.
type noise uint64

func (s *noise) below(n int) int {
	*s = *s*6364136223846793005 + 1442695040888963407
	return int(*s>>33) % n
}

// coefficient makes an integer or a fraction other than 0.
func (s *noise) coefficient() api.Rat {
	c := fraction.Of(s.below(7) - 3)
	if fraction.Sign(c) == 0 {
		c = fraction.Of(1)
	}
	if s.below(4) == 0 {
		c, _ = fraction.Div(c, fraction.Of(2+s.below(2)))
	}
	return c
}

// sample makes a polynomial of at most so many terms, perhaps 0, with exponents below
// high.
func (s *noise) sample(r api.Ring, terms, high int) []api.Term {
	var l []api.Term
	for range s.below(terms + 1) {
		e := make([]int, len(r.Names))
		for i := range e {
			e[i] = s.below(high)
		}
		l = append(l, api.Term{C: s.coefficient(), E: e})
	}
	return must(poly.Norm(r, l))
}

// anyForm makes a polynomial's terms as they need not be: in no order, some of them
// divided into two or beside a 0, and their coefficients not plain.
func (s *noise) anyForm(p []api.Term) []api.Term {
	l := slices.Clone(p)
	for _, t := range p {
		c := s.coefficient()
		switch s.below(6) {
		case 0:
			l = append(l, api.Term{E: slices.Clone(t.E)})
		case 1:
			l = append(l, api.Term{C: api.Rat{Num: c.Num, Den: []uint32{0}}, E: slices.Clone(t.E)})
		case 2:
			l = append(l, api.Term{C: c, E: t.E}, api.Term{C: fraction.Neg(c), E: slices.Clone(t.E)})
		}
	}
	for k := range l {
		if len(l[k].C.Den) > 0 && s.below(2) == 0 {
			l[k].C = s.unplain(l[k].C)
		}
		other := s.below(k + 1)
		l[k], l[other] = l[other], l[k]
	}
	return l
}

func (s *noise) anyForms(l [][]api.Term) [][]api.Term {
	all := make([][]api.Term, len(l))
	for i, p := range l {
		all[i] = p
		if s.below(2) == 0 {
			all[i] = s.anyForm(p)
		}
	}
	return all
}

// unplain makes another form of the same fraction, with limbs that are 0 at the end.
func (s *noise) unplain(x api.Rat) api.Rat {
	by := fraction.Of(1 + s.below(1<<20)).Num.Mag
	num := fraction.Mul(api.Rat{Num: x.Num, Den: []uint32{1}}, api.Rat{Num: api.Int{Mag: by}, Den: []uint32{1}}).Num
	den := fraction.Mul(api.Rat{Num: api.Int{Mag: x.Den}, Den: []uint32{1}}, api.Rat{Num: api.Int{Mag: by}, Den: []uint32{1}}).Num.Mag
	num.Mag = append(num.Mag, make([]uint32, s.below(3))...)
	return api.Rat{Num: num, Den: append(den, make([]uint32, s.below(3))...)}
}

// shuffled is the same polynomials in another order.
func (s *noise) shuffled(f [][]api.Term) [][]api.Term {
	f = slices.Clone(f)
	for k := range f {
		other := s.below(k + 1)
		f[k], f[other] = f[other], f[k]
	}
	return f
}
