package ideal_test

import (
	"testing"

	"primrose/api"
	"primrose/fraction"
)

func TestQ2Sum(t *testing.T) {
	expectExamples(t, "Sum", lex(2), []example{
		{f: "x", h: "y", g: "y; x", steps: 1}, {f: "x*y - 1", h: "y^2 - 1", g: "y^2 - 1; x - y", steps: 4},
		{f: "-2*x + 4", h: "3*y - x", g: "y - 2/3; x - 2", steps: 3},
		// Nothing, and 0.
		{}, {f: "x", g: "x"}, {h: "x", g: "x"}, {f: "0", h: "0; 0"}, {f: "0; x; 0", h: "y; 0", g: "y; x", steps: 1}, {f: "0; -2*x", g: "x"},
		// The whole ring.
		{f: "x; y", h: "x - 1", g: "1", steps: 6}, {f: "1", h: "x; y", g: "1", steps: 3}, {f: "x; y", h: "2", g: "1", steps: 3}, {f: "1", h: "1", g: "1", steps: 1},
		// Equal ones, and one within the other.
		{f: "x", h: "x", g: "x", steps: 1}, {f: "x^2", h: "x", g: "x", steps: 1}, {f: "x", h: "x^2", g: "x", steps: 1},
	})
	// f comes first: of elements with the same leading monomial the first one stays,
	// and is divided by the other ones.
	expectExamples(t, "Sum", lex(2), []example{
		{f: "x - y^2", h: "x", g: "y^2; x", steps: 4},
		{f: "x", h: "x - y^2", g: "y^2; x", steps: 3},
	})
}

func TestQ2Product(t *testing.T) {
	expectExamples(t, "Product", lex(2), []example{
		{f: "x", h: "y", g: "x*y"}, {f: "x; y", h: "x; y", g: "y^2; x*y; x^2", steps: 6}, {f: "x + y", h: "x - y", g: "x^2 - y^2"},
		{f: "x - y; y^2", h: "x + y; y", g: "y^3; x*y - y^2; x^2 - y^2", steps: 12}, {f: "x; y", h: "x - 1; y", g: "y; x^2 - x", steps: 13},
		// Nothing, and 0.
		{}, {f: "x"}, {h: "x; y"}, {f: "0", h: "x"}, {f: "x; 0; y", h: "0"}, {f: "0; x", h: "0; y; 0", g: "x*y"},
		// The whole ring.
		{f: "1", h: "x; y", g: "y; x", steps: 1}, {f: "x; y", h: "2/3", g: "y; x", steps: 1}, {f: "3", h: "2", g: "1"},
		// Equal ones.
		{f: "x", h: "x", g: "x^2"},
	})
}

// Each element of f is multiplied by each of h before the next one of f is. The order
// of the products shows in the number of steps.
func TestQ2OrderOfProducts(t *testing.T) {
	t.Parallel()
	expectExamples(t, "Product", lex(2), []example{
		{f: "x; y", h: "x + y; y", g: "y^2; x*y; x^2", steps: 10},
		{f: "x + y; y", h: "x; y", g: "y^2; x*y; x^2", steps: 13},
		{f: "x; y", h: "x^2; x + y", g: "y^3; x*y + y^2; x^2 - y^2", steps: 21},
		{f: "x^2; x + y", h: "x; y", g: "y^3; x*y + y^2; x^2 - y^2", steps: 17},
	})
	s, different := noise(32), 0
	for _, r := range rings(2) {
		for range 40 {
			f, h := s.samples(2+s.below(2), 2, 3, 2, 2), s.samples(2, 2, 3, 2, 2)
			for i := range f {
				f[i] = plus(f[i], power(0, 2))
			}
			for i := range h {
				h[i] = plus(h[i], power(1, 2))
			}
			q := question{"Product", r, s.anyForms(r, f), s.anyForms(r, h), 0}
			a := expectWords(t, q, 600)
			q.f, q.h = q.h, q.f
			if b := expectWords(t, q, 600); a.left != b.left {
				different++
			}
		}
	}
	if different < 12 {
		t.Errorf("only %d samples tell the order", different)
	}
}

// A product may have exponents up to MaxExp. Whether one is greater is seen before
// any step, in each product.
func TestQ2Limit(t *testing.T) {
	for _, r := range rings(2) {
		x, y := power(0, 1), power(1, 1)
		for _, p := range []sum{x, y} {
			far := func(n int) sum { return times(plus(x, y), raisedTo(p, n)) }
			just := question{"Product", r, termsOf(r, []sum{far(30000)}), termsOf(r, []sum{far(35534)}), 0}
			expect(t, just, 0, answer{g: []sum{monic(r, times(far(30000), far(35534)))}})
			for _, fuel := range []int{0, 1, api.MaxFuel} {
				f, h := termsOf(r, []sum{far(30000)}), termsOf(r, []sum{far(35535)})
				one := termsOf(r, []sum{constant(rat(1, 1)), x, nil})
				expect(t, question{"Product", r, f, h, 0}, fuel, answer{e: api.ErrLong})
				expect(t, question{"Product", r, append(one, f...), append(one, h...), 0}, fuel, answer{e: api.ErrLong})
				expect(t, question{"Product", r, append(f, one...), append(h, one...), 0}, fuel, answer{e: api.ErrLong})
				expect(t, question{"Product", r, append(one, f...), append(h, one...), 0}, fuel, answer{e: api.ErrLong})
				expect(t, question{"Product", r, f, termsOf(r, []sum{nil, nil}), 0}, fuel, answer{left: fuel})
			}
		}
	}
}

// raisedTo is a variable to the power of n.
func raisedTo(variable sum, n int) sum {
	for k := range variable {
		for i := range k {
			k[i] *= n
		}
		return sum{k: rat(1, 1)}
	}
	return nil
}

// monic divides by the leading coefficient.
func monic(r api.Ring, p sum) sum {
	return raised(p, lead(r, p), lead(r, p))
}

// Only the terms of plain elements count; terms of a product that cancel count too.
func TestQ2LimitOfPlainElements(t *testing.T) {
	r := lex(2)
	one, far := fraction.Of(1), []int{0, limit}
	x, y := api.Term{C: one, E: []int{1, 0}}, []api.Term{{C: one, E: []int{0, 1}}}
	for _, p := range [][]api.Term{
		{x, {C: fraction.Of(0), E: far}},
		{x, {C: api.Rat{Num: one.Num}, E: far}},
		{{C: one, E: far}, x, {C: fraction.Of(-1), E: far}},
	} {
		xy := []sum{times(power(0, 1), power(1, 1))}
		expect(t, question{"Product", r, [][]api.Term{p}, [][]api.Term{y}, 0}, 0, answer{g: xy})
		expect(t, question{"Product", r, [][]api.Term{y}, [][]api.Term{p}, 0}, 0, answer{g: xy})
		p = append(p, api.Term{C: one, E: far})
		expect(t, question{"Product", r, [][]api.Term{p}, [][]api.Term{y}, 0}, 0, answer{e: api.ErrLong})
	}
}
