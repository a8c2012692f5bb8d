package extend_test

import (
	"slices"
	"testing"

	"primrose/api"
	"primrose/basis"
)

// Sets of up to three variables, from the empty one on.
var (
	none = []int(nil)
	x, y = []int{0}, []int{1}
	xy   = []int{0, 1}
)

func TestS1Examples(t *testing.T) {
	r := lex(2)
	for _, c := range []struct {
		f     string
		u     []int
		want  string
		steps int
	}{
		// Nothing is made of nothing; but 1 minus the new variable takes steps with others.
		{"", none, "", 0}, {"", y, "", 0}, {"", xy, "", 0}, {"0", x, "", 0}, {"0; 0", xy, "", 0},
		{"1", none, "1", 1}, {"-2/3", x, "1", 1}, {"5", xy, "1", 1}, {"x; 0; 2; y^2", y, "1", 9},
		// By no variables an ideal stays what it is.
		{"x", none, "x", 1}, {"x; y", none, "y; x", 5}, {"x*y; x^2", none, "x*y; x^2", 5}, {"x^2*y - x; y^2 - 1", none, "y^2 - 1; x^2 - x*y", 12},
		// With a number in them there is all.
		{"x", x, "1", 3}, {"y", x, "y", 1}, {"x", xy, "1", 3}, {"x^2*y - 3", xy, "1", 3}, {"x*y; x^2", xy, "1", 8},
		{"x - 1; y + 2", none, "y + 2; x - 1", 5}, {"x - 1; y + 2", x, "1", 7}, {"x - 1; y + 2", y, "1", 7}, {"x - 1; y + 2", xy, "1", 10},
		// Parts.
		{"x*y; x^2", y, "x", 7}, {"x*y; x^2", x, "1", 8}, {"x*y^3", x, "y^3", 3}, {"x*y^3", y, "x", 3},
		{"x*y - 2*x - y + 2", x, "y - 2", 5}, {"x*y - 2*x - y + 2", y, "x - 1", 5},
		{"x^2 - y", x, "x^2 - y", 1}, {"x^2 - y", y, "x^2 - y", 1}, {"x^2*y - x", y, "x^2*y - x", 6}, {"x^3*y - x^2", x, "x*y - 1", 30},
	} {
		if steps := expectContraction(t, r, c.f, c.u, c.want); steps != c.steps {
			t.Errorf("S1: %s by %v takes %d steps, not %d", c.f, c.u, steps, c.steps)
		}
	}
}

// Each set of three variables: at the beginning, at the end, and between others.
func TestS1Sets(t *testing.T) {
	for _, c := range []struct {
		f    string
		want []string // by nothing; x; y; x, y; z; x, z; y, z; all
	}{
		{"x*y; y*z; z*x", []string{"y*z; x*z; x*y", "z; y", "z; x", "1", "y; x", "1", "1", "1"}},
		{"x*z - x; y*z + y", []string{"y*z + y; x*z - x; x*y", "z - 1; y", "z + 1; x", "1", "y; x", "1", "1", "1"}},
		{"x*y^2*z^3", []string{"x*y^2*z^3", "y^2*z^3", "x*z^3", "z^3", "x*y^2", "y^2", "x", "1"}},
		{"x*y*z; x^2*y", []string{"x*y*z; x^2*y", "y", "x*z; x^2", "1", "x*y", "y", "x", "1"}},
		{"x*z; y*z", []string{"y*z; x*z", "z", "z", "z", "y; x", "1", "1", "1"}},
		{"x^2 - y; y^2 - z", []string{"y^2 - z; x^2 - y", "y - x^2; z - x^4", "y^2 - z; x^2 - y", "1", "y^2 - z; x^2 - y", "1", "1", "1"}},
		{"x; y; z", []string{"z; y; x", "1", "1", "1", "1", "1", "1", "1"}},
		{"x*y*z - 1", []string{"x*y*z - 1", "x*y*z - 1", "x*y*z - 1", "x*y*z - 1", "x*y*z - 1", "x*y*z - 1", "x*y*z - 1", "1"}},
		{"x*y - x*z; x^2", []string{"x*y - x*z; x^2", "1", "x*y - x*z; x^2", "1", "x*y - x*z; x^2", "1", "x", "1"}},
	} {
		sets := [][]int{none, x, y, xy, {2}, {0, 2}, {1, 2}, {0, 1, 2}}
		for _, r := range rings(3) {
			for k, u := range sets {
				g, _, e := basis.Reduced(r, parsedList(t, r, c.want[k]), 1000)
				if e != api.OK {
					t.Fatal(e)
				}
				expectContraction(t, r, c.f, u, printedList(r, g))
			}
		}
	}
}

// Results are in the order of r, not in that of the reordered ring.
func TestS1Orders(t *testing.T) {
	for _, c := range []struct {
		order, first int
		part, whole  string
	}{
		{api.Lex, 0, "y^4 - y; x - y^2", "y^4*z - y*z; x*z - y^2*z"}, {api.Block, 1, "y^4 - y; x - y^2", "y^4*z - y*z; x*z - y^2*z"},
		{api.Grlex, 0, "y^2 - x; x^2 - y", "y^2*z - x*z; x^2*z - y*z"}, {api.Grevlex, 0, "y^2 - x; x^2 - y", "y^2*z - x*z; x^2*z - y*z"},
		{api.Block, 2, "y^2 - x; x^2 - y", "y^2*z - x*z; x^2*z - y*z"},
	} {
		r := api.Ring{Names: letters(3), Order: c.order, First: c.first}
		f := "y^2*z - x*z; x^2*z - y*z"
		expectContraction(t, r, f, []int{2}, c.part)
		expectContraction(t, r, f, none, c.whole)
		expectContraction(t, r, f, x, "z")
		expectContraction(t, r, f, y, "z")
	}
}

// withoutThem is a polynomial in which the variables of a set are 1.
func withoutThem(p sum, u []int) sum {
	s := sum{}
	for e, c := range p {
		for _, i := range u {
			e[i] = 0
		}
		s.add(e, c)
	}
	return s
}

// monomial makes one with some of n variables, and exponents below high.
func (s *noise) monomial(n, high int) sum {
	var e key
	for i := range n {
		if s.below(2) == 0 {
			e[i] = s.below(high)
		}
	}
	if e == (key{}) {
		e[s.below(n)] = 1
	}
	return sum{e: s.fraction(5)}
}

// Of an ideal of monomials there remains what these are without the variables of u.
func TestS1Monomials(t *testing.T) {
	t.Parallel()
	s := noise(30)
	for n := 1; n <= 5; n++ {
		for _, r := range rings(n) {
			for k := range 12 {
				var f, want []sum
				for range s.below(5) {
					f = append(f, s.monomial(n, 2+k%4))
				}
				u := s.set(n)
				for _, p := range f {
					want = append(want, withoutThem(p, u))
				}
				g, _, _ := basis.Reduced(r, termsOf(r, want), 1000)
				q := question{"Contract", r, s.anyForms(r, f), u}
				if a := q.ask(api.MaxFuel); a.e != api.OK || !areForms(r, a.g, sumsOf(g)) {
					t.Fatalf("S1: %s by %v in %v: %s, %d", printedList(r, q.f), u, r, printedList(r, a.g), a.e)
				}
				expectWords(t, q, 100)
			}
		}
	}
}

// in makes a polynomial in the variables of u alone, but not 0.
func (s *noise) in(n int, u []int, terms, digits int) sum {
	for {
		p := s.sample(n, terms, 3, digits)
		p = withoutThem(p, allBut(n, u...))
		if len(p) > 0 {
			return p
		}
	}
}

// What is multiplied by polynomials in the variables of u is found without them.
func TestS1Multiples(t *testing.T) {
	t.Parallel()
	s, tried := noise(31), 0
	for n := 2; n <= 5; n++ {
		for _, r := range rings(n) {
			for range 12 {
				u := s.set(n)
				f := s.samples(1+s.below(2), n, 2, 2, 2)
				all := slices.Clone(f)
				for k, p := range f {
					all[k] = times(p, s.in(n, u, 1+s.below(2), 2))
				}
				first := question{"Contract", r, s.anyForms(r, f), u}.ask(800)
				second := question{"Contract", r, s.anyForms(r, all), u}.ask(800)
				if first.e != api.OK || second.e != api.OK {
					continue
				}
				tried++
				if !areForms(r, first.g, sumsOf(second.g)) {
					t.Fatalf("S1: %v by %v in %v: %s, not %s", all, u, r, printedList(r, second.g), printedList(r, first.g))
				}
			}
		}
	}
	if tried < 100 {
		t.Errorf("only %d samples", tried)
	}
}
