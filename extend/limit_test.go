package extend_test

import (
	"testing"

	"primrose/api"
)

// expectLong expects that a call is too great at a place, and that the fuel ends before
// with as many steps less.
func expectLong(t *testing.T, q question, place int) {
	t.Helper()
	for fuel := 0; ; fuel++ {
		switch a := expectWords(t, q, fuel); {
		case a.e == api.ErrLong:
			if a.fault != place {
				t.Errorf("%s of %s by %v in %v is too great at %d, not at %d", q.call, printedList(q.r, q.f), q.u, q.r, a.fault, place)
			}
			expectNothing(t, q, fuel+1, api.ErrLong)
			expectNothing(t, q, api.MaxFuel, api.ErrLong)
			return
		case a.e != api.ErrFuel:
			t.Fatalf("%s of %s by %v in %v is not too great", q.call, printedList(q.r, q.f), q.u, q.r)
		}
	}
}

// Bases may be too great at each place, and so may the product.
func TestLimit(t *testing.T) {
	for _, c := range []struct {
		call                string
		names, order, first int
		f                   string
		u                   []int
		place               int
	}{
		{"Contract", 2, api.Lex, 0, "2*x^10000*y^30000; x^10000 + x*y^60000", y, 1},
		{"Contract", 4, api.Grlex, 0, "y^20000; 2*y*z^60000*u^10000 + y^20000*z^30000*u^20000", []int{2, 3}, 1},
		{"Contract", 3, api.Grlex, 0, "x^30000*y^30000; 2*y^10000*z^30000; x^20000*y^60000", xy, inProduct},
		{"Contract", 4, api.Grevlex, 0, "x^40000*z^10000*u; x^30000*y^10000*u^20000; y^20000", []int{0, 2, 3}, inProduct},
		{"Contract", 3, api.Block, 1, "x^60000*y^10000*z^40000 + 2*y^10000*z", xy, 2},
		{"Contract", 4, api.Block, 3, "x^60000*y^40000*z^60000*u + 2*x^60000*z^30000", []int{1, 2}, 2},
		{"Contract", 2, api.Block, 1, "x^60000*y^40000; x*y^10000 + 2*y^40000", none, 3},
		{"Contract", 3, api.Block, 1, "x^20000*y^10000 + 2*z^60000; y^30000*z^10000", x, 3},
		{"Contract", 6, api.Lex, 0, "2*x^10000*y^30000; x^10000 + x*y^60000", []int{1, 2, 3}, 1},
		{"Contract", 6, api.Lex, 0, "x*w^40000; x^2*w^30000", []int{1, 2, 3, 4, 5}, inProduct},
		{"Contract", 6, api.Lex, 0, "x*w^30000; x^2*w^20000", []int{1, 2, 3, 4, 5}, inWider},
		{"Halve", 2, api.Lex, 0, "y^15536; x^65536*y^5537 + x^2*y^60000; 2*x^60001*y^60002 + 2*x^40001*y^29999", nil, 1},
		{"Halve", 3, api.Grevlex, 0, "2*x^10000*y^40000 + x^20000; 2*x^60000*y^20000*z^20000 + y", nil, 1},
		{"Halve", 2, api.Grevlex, 0, "x*y^40002 + 2*x^10001; x^29999", nil, 2},
		{"Halve", 4, api.Lex, 0, "x^40000*z^10000 + z^20000; 2*x^40000*y^30000*z^20000*u^40000", nil, 2},
		{"Halve", 2, api.Grevlex, 0, "2*x^40000*y^60000; 2*x^50000*y^15536; 2*x^60002*y^40002 + x^50000*y^5536", nil, inProduct},
		{"Halve", 3, api.Lex, 0, "x^2*y^60000*z^20001; 2*x^10001*y^40000*z", nil, inProduct},
		{"Halve", 2, api.Lex, 0, "x^30001*y^40002 + 2*x^10003*y^10003", nil, 3},
		{"Halve", 4, api.Grevlex, 0, "2*x^20000*y^40000*z^60000 + z", nil, 3},
		{"Halve", 2, api.Block, 1, "2*y^60000; x^30000 + 2*y^40000", nil, 4},
		{"Halve", 3, api.Lex, 0, "y^15536 + 2*y^10001*z^40000; x^9999 + 2*y^5536*z^20001", nil, 4},
		{"Halve", 2, api.Lex, 0, "2*x^60000*y^10000 + x^40000", nil, 5},
		{"Halve", 3, api.Grevlex, 0, "2*x*y^40000*z + y^9999", nil, 5},
		{"Halve", 6, api.Lex, 0, "x^2 + y^40000; x*y^40000 + 1", nil, 1},
		{"Halve", 6, api.Grevlex, 0, "x*y^40002 + 2*x^10001; x^29999", nil, 2},
		{"Halve", 6, api.Lex, 0, "w*x^40000; w^2*x^30000", nil, inProduct},
		{"Halve", 6, api.Lex, 0, "x*w", nil, inWider},
		{"Degree", 2, api.Grevlex, 0, "2*x^30000 + 2*x^20000; y^30000; 2*x^20000*y^60000 + y^20000", none, 1},
		{"Degree", 4, api.Block, 1, "2*x^40000*y*z^10000 + z^60000*u^60000; 2*x^10000*y^10000*z^20000*u + 2*z^40000*u^10000", []int{2}, 1},
		{"Degree", 6, api.Lex, 0, "2*x^10000*y^30000; x^10000 + x*y^60000", []int{1, 2, 3}, 1},
	} {
		r := api.Ring{Names: letters(c.names), Order: c.order, First: c.first}
		expectLong(t, question{c.call, r, parsedList(t, r, c.f), c.u}, c.place)
	}
}

// The product of leading coefficients just within and just beyond the limit, with the
// same ones several times, and with several variables.
func TestLimitOfProduct(t *testing.T) {
	for _, c := range []struct {
		f      string
		u      []int
		h      string
		beyond string
	}{
		{"x*z^40000; x^2*z^25536", []int{1, 2}, "z^65536", "x*z^40000; x^2*z^25537"},
		{"x*z^65536", []int{1, 2}, "z^65536", "x*z^65536; x^2*z"},
		{"x^2*z^65536; x*y*z^65536", []int{2}, "z^65536", "x^2*z^65535; x*y*z^65536"},
		{"x*z^30000*y^40000; x^2*z^20000*y^25536; x^3*z^15536", []int{1, 2}, "y^65536*z^65536", "x*z^30000*y^40000; x^2*z^20000*y^25537; x^3*z^15536"},
		{"x*z^40000; x^2*z^20000; x^3*z^5536", []int{1, 2}, "z^65536", "x*z^40000; x^2*z^20000; x^3*z^5537"},
		{"x*z^40000 + x*z^39999; x^2*z^25535 + x^2*z^25534", []int{1, 2}, "z^65535 + 2*z^65534 + z^65533", "x*z^40000 + x*z^39999; x^2*z^25537 + x^2*z^25536"},
	} {
		for _, r := range []api.Ring{lex(3), {Names: letters(3), Order: api.Grlex}, {Names: letters(3), Order: api.Grevlex}} {
			q := question{"Contract", r, parsedList(t, r, c.f), c.u}
			h := (&words{left: 1000}).productOf(q)
			if !isSame(h, sumOf(parsed(t, r, c.h))) {
				t.Errorf("%s by %v: %s", c.f, c.u, printed(r, h.terms(r)))
			}
			if a := expectWords(t, q, 1000); a.e != api.OK {
				t.Errorf("S1: %s by %v: %d", c.f, c.u, a.e)
			}
			expectLong(t, question{"Contract", r, parsedList(t, r, c.beyond), c.u}, inProduct)
		}
	}
	r := lex(2)
	expectHalf(t, r, half{"y*x^40000; y^2*x^25536", x, "x^65536", "y", 1})
	expectLong(t, question{"Halve", r, parsedList(t, r, "y*x^40000; y^2*x^25537"), nil}, inProduct)
}

// productOf is h of a contraction.
func (c *words) productOf(q question) sum {
	o, places := reordered(q.r, q.u)
	return c.product(q.r, c.basis(o, movedList(sumsOf(q.f), places)), len(q.r.Names)-len(q.u), places)
}

// Exponents at the limit.
func TestAtTheLimit(t *testing.T) {
	for _, r := range rings(2) {
		expectContraction(t, r, "x^65536*y", x, "y")
		expectContraction(t, r, "x^65536*y", y, "x^65536")
		expectContraction(t, r, "x^65536*y^65536", x, "y^65536")
		expectContraction(t, r, "x^65536", xy, "1")
		expectHalf(t, r, half{"x*y^65536; x^2", y, "y^65536", "x", 1})
		expectDegree(t, r, "x^1000*y^65536", y, 1000)
	}
}

// far makes a polynomial with great exponents.
func (s *noise) far(n, terms int) sum {
	p := sum{}
	for range terms {
		var k key
		for i := range n {
			k[i] = []int{0, 0, 0, 1, 10000, 20000, 30000, 40000, 60000}[s.below(9)]
		}
		p.add(k, rat(int64(1+s.below(2)), 1))
	}
	return p
}

func TestLimitOfSamples(t *testing.T) {
	t.Parallel()
	for call, places := range map[string][]int{"Contract": {1, inProduct, 2, 3}, "Halve": {1, inProduct, 2, 3, 5}, "Degree": {1}} {
		t.Run(call, func(t *testing.T) {
			t.Parallel()
			s, found, answered := noise(80), map[int]int{}, 0
			for k := range 5000 {
				n := 1 + k%4
				r := rings(n)[s.below(len(rings(n)))]
				var f []sum
				for range 1 + s.below(3) {
					f = append(f, s.far(n, 1+s.below(2)))
				}
				q := question{call, r, termsOf(r, f), s.set(n)}
				switch a := expectWords(t, q, 40); a.e {
				case api.ErrLong:
					found[a.fault]++
					expectWords(t, q, s.below(8))
				case api.OK:
					answered++
				}
			}
			for _, place := range places {
				if found[place] == 0 {
					t.Errorf("%s: no sample is too great at %d", call, place)
				}
			}
			if answered < 500 {
				t.Errorf("%s: only %d samples are not too great", call, answered)
			}
		})
	}
}
