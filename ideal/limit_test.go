package ideal_test

import (
	"testing"

	"primrose/api"
)

// expectLong expects that a call is too great in one of its bases and divisions,
// counted from 1, and that the fuel ends before with as many steps less.
func expectLong(t *testing.T, q question, place int) {
	t.Helper()
	for fuel := 0; ; fuel++ {
		switch a := expectWords(t, q, fuel); {
		case a.e == api.ErrLong:
			if a.fault != place {
				t.Errorf("%s of %s and %s is too great in %d, not in %d", q.call, printedList(q.r, q.f), printedList(q.r, q.h), a.fault, place)
			}
			expectNothing(t, q, fuel+1, api.ErrLong)
			expectNothing(t, q, api.MaxFuel, api.ErrLong)
			return
		case a.e != api.ErrFuel:
			t.Fatalf("%s of %s and %s is not too great", q.call, printedList(q.r, q.f), printedList(q.r, q.h))
		}
	}
}

// Each of a call's bases and divisions may be too great.
func TestLimit(t *testing.T) {
	for _, x := range []struct {
		call                string
		names, order, first int
		f, h                string
		k, place            int
	}{
		{"Member", 2, api.Lex, 0, "x^2 + y^40000; x*y^40000 + 1", "1", 0, 1},
		{"Member", 3, api.Lex, 0, "y - z^40000", "y*z^30000", 0, 2},
		{"Member", 2, api.Block, 1, "x^20000 + 2*y^10000", "2*x^30000*y^60000 + y^40000", 0, 2},
		{"Subset", 2, api.Lex, 0, "1", "x^2 + y^40000; x*y^40000 + 1", 0, 1},
		{"Subset", 3, api.Lex, 0, "y*z^30000", "y - z^40000", 0, 2},
		{"Subset", 3, api.Lex, 0, "0; y*z^20000 - z^60000; y*z^30000", "y - z^40000", 0, 4},
		{"Sum", 2, api.Lex, 0, "x^2 + y^40000", "x*y^40000 + 1", 0, 1},
		{"Sum", 3, api.Lex, 0, "y*z^30000", "y - z^40000", 0, 1},
		{"Product", 2, api.Grevlex, 0, "2*x^40000 + 1; x^30000*y^30000 + 1", "2*x^20000; x^20000 + y^10000", 0, 1},
		{"Eliminate", 2, api.Lex, 0, "x^2 + y^40000; x*y^40000 + 1", "", 0, 1},
		{"Eliminate", 2, api.Grlex, 0, "2*x^60000 + x^40000; x^30000*y^30000 + x^40000", "", 2, 1},
		{"Eliminate", 3, api.Lex, 0, "y*z^30000; y - z^40000", "", 1, 2},
		{"Eliminate", 3, api.Lex, 0, "x^2 - 1; y*z^30000; 2*x - 3; y - z^40000", "", 0, 1},
		{"Meet", 2, api.Grlex, 0, "2*x^30000*y^40000 + 2*x^10000; x^10000*y^20000", "2*x^40000 + x^30000*y^10000; 2*x^40000 + 2", 0, 1},
		{"Meet", 2, api.Block, 1, "y^20000; 2*x^40000*y^30000 + y^40000", "x^40000*y^20000 + 2*x^10000*y^30000; x^40000 + y^30000", 0, 2},
		{"Meet", 3, api.Lex, 0, "y*z^30000; y - z^40000", "1", 0, 2},
		{"Meet", 3, api.Block, 2, "1", "2*x^10000*y^40000*z^20000; 2*y^20000 + 2*z^60000", 0, 2},
		{"Quotient", 2, api.Grlex, 0, "2*x^60000 + x^40000; x^30000*y^30000 + x^40000", "2*x^10000 + 1", 0, 1},
		{"Quotient", 3, api.Lex, 0, "x^10000 + 2*y^40000; y^60000", "2*z^40000; x^60000*y^40000*z^60000 + 2*x^20000*y^60000", 0, 2},
		{"Quotient", 1, api.Lex, 0, "x^40000; x^60000", "x^20000; 2*x^20000 + 2", 0, 6},
		{"Quotient", 3, api.Block, 1, "2*x^40000; x^10000*z^20000 + z^60000", "2*x^30000*y^60000; 2*z^20000", 0, 7},
		{"Quotient", 1, api.Grevlex, 0, "2*x^60000 + 2*x^40000", "x^20000 + 1; 2*x^30000", 0, 9},
		{"Saturate", 2, api.Grlex, 0, "2*x^60000 + x^40000; x^30000*y^30000 + x^40000", "2*x^10000 + 1", 0, 1},
		{"Saturate", 2, api.Block, 1, "x^40000*y^10000; x^10000*y^10000 + 2*y^40000", "2*x^40000 + 2", 0, 2},
		{"Saturate", 2, api.Block, 1, "x^10000*y^30000; x^20000*y^10000 + y^60000", "x^20000*y^10000", 0, 3},
		{"Saturate", 1, api.Grevlex, 0, "x^40000 + 2*x^20000", "x^20000 + 2*x^10000", 0, 4},
		{"Saturate", 1, api.Lex, 0, "x^60000 + 2*x^40000", "x^30000", 0, 7},
	} {
		r := api.Ring{Names: letters(x.names), Order: x.order, First: x.first}
		q := question{x.call, r, parsedList(t, r, x.f), parsedList(t, r, x.h), x.k}
		expectLong(t, q, x.place)
	}
}

// The product with the new variable is never too great, also at the limit; what
// comes behind it may be.
func TestQ6Limit(t *testing.T) {
	for _, r := range rings(2) {
		for _, p := range []string{"x^65536", "x^65536*y^65536", "y^65536 - 3*x^65536 + 1"} {
			h := parsedList(t, r, p)
			for _, f := range []string{"", "0", "1", "x", "y - 1", "x - 1; y - 2", "x^65536*y^65536"} {
				for _, fuel := range []int{0, 1, 5, 40} {
					expectWords(t, question{"Saturate", r, parsedList(t, r, f), h, 0}, fuel)
				}
			}
			expect(t, question{"Saturate", r, nil, h, 0}, 0, answer{})
		}
		expectExamples(t, "Saturate", r, []example{
			{f: "y", h: "x^65536", g: "y", steps: 1}, {f: "x", h: "x^65536", g: "1", s: 1, steps: 7},
			{f: "x^65536*y", h: "x^65536", g: "y", s: 1, steps: 7},
		})
	}
	r := lex(2)
	p := parsedList(t, r, "y^65536 + x*y")
	expectLong(t, question{"Saturate", r, parsedList(t, r, "x^65536*y"), p, 0}, 1)
	expectForms(t, question{"Saturate", r, parsedList(t, r, "x^65534*y"), p, 0}, []sum{power(0, 65534)})
}

// far makes a polynomial with great exponents.
func (s *noise) far(n, terms int) sum {
	p := sum{}
	for range terms {
		var k key
		for i := range n {
			k[i] = []int{0, 0, 0, 10000, 20000, 30000, 40000, 60000}[s.below(8)]
		}
		p.add(k, rat(int64(1+s.below(2)), 1))
	}
	return p
}

func TestLimitOfSamples(t *testing.T) {
	for _, call := range calls() {
		t.Run(call, func(t *testing.T) {
			t.Parallel()
			s, tooLong, answered := noise(80), 0, 0
			for k := range 2500 {
				n := 1 + k%3
				r := rings(n)[s.below(len(rings(n)))]
				var f, h []sum
				for range 1 + s.below(2) {
					f = append(f, s.far(n, 1+s.below(2)))
				}
				for range 1 + s.below(2) {
					h = append(h, s.far(n, 1+s.below(2)))
				}
				if hasOne(call) {
					h = h[:1]
				}
				q := question{call, r, termsOf(r, f), termsOf(r, h), s.below(n + 1)}
				switch expectWords(t, q, 40).e {
				case api.ErrLong:
					tooLong++
					expectWords(t, q, s.below(8))
				case api.OK:
					answered++
				}
			}
			if tooLong < 100 || answered < 500 {
				t.Errorf("%s: only %d samples are too great, and %d are not", call, tooLong, answered)
			}
		})
	}
}
