package ideal_test

import (
	"slices"
	"testing"

	"primrose/api"
	"primrose/fraction"
)

// The wider ring's variable has a name that the ring does not have. Which one it is
// does not show: all calls answer what they do with other names.
func TestNames(t *testing.T) {
	t.Parallel()
	for _, names := range [][]string{
		{"t"}, {"tt"}, {"T"}, {"t", "tt"}, {"tt", "t"}, {"t", "ttt"}, {"tt", "ttt"}, {"t", "T"}, {"t", "tt", "ttt"}, {"ttt", "tt", "t"}, {"tt", "x", "ttt"}, {"t", "tt", "tttt"},
		{"x", "t", "y", "tt"}, {"tttt", "ttt", "tt", "t"}, {"t", "tt", "ttt", "tttt", "ttttt"}, {"ttttt", "tttt", "ttt", "tt", "t"},
		{"t", "tt", "ttt", "tttt", "tttttt"}, {"t1", "t2", "t", "tttttttt", "tt"},
	} {
		s := noise(50)
		for _, r := range rings(len(names)) {
			q := question{"", r, s.samplesOf(r, 2), s.samplesOf(r, 2), 1}
			for _, q.call = range calls() {
				if hasOne(q.call) {
					q.h = q.h[:1]
				} else if len(q.h) == 1 {
					q.h = s.samplesOf(r, 2)
				}
				want := expectWords(t, q, 300)
				renamed := q
				renamed.r.Names = names
				expect(t, renamed, 300, want)
				expectWords(t, renamed, 300)
			}
			for _, x := range []struct{ call, f, h, g string }{
				{"Meet", "x; 0", "x^2 - x", "x^2 - x"}, {"Quotient", "x^2 - x", "x", "x - 1"}, {"Saturate", "x^3 - x^2", "2*x", "x - 1"},
			} {
				q := question{x.call, r, parsedList(t, r, x.f), parsedList(t, r, x.h), 0}
				q.r.Names = names
				expectForms(t, q, sumsOf(parsedList(t, r, x.g)))
			}
		}
	}
}

// samplesOf makes small polynomials of a ring, in any form.
func (s *noise) samplesOf(r api.Ring, count int) [][]api.Term {
	return s.anyForms(r, s.samples(count, len(r.Names), 3, 2, 3))
}

// With six variables there is no wider ring. It is needed before any step is taken,
// also if that would answer 1 or nothing.
func TestNoWiderRing(t *testing.T) {
	for _, r := range rings(6) {
		one := []api.Term{{C: fraction.Of(1), E: make([]int, 6)}}
		x, y := power(0, 1).terms(r), power(1, 1).terms(r)
		great := []api.Term{{C: fraction.Of(1), E: slices.Repeat([]int{limit}, 6)}}
		lists := [][][]api.Term{nil, {}, {nil}, {one}, {x}, {x, y}, {nil, great, x}, zeros(6)}
		for _, fuel := range []int{0, 1, 100, api.MaxFuel} {
			for _, f := range lists {
				for _, h := range lists {
					expect(t, question{"Meet", r, f, h, 0}, fuel, answer{e: api.ErrLong})
					if len(h) > 0 {
						expect(t, question{"Quotient", r, f, h, 0}, fuel, answer{e: api.ErrLong})
						expect(t, question{"Saturate", r, f, h[:1], 0}, fuel, answer{e: api.ErrLong})
					}
				}
				// Without any polynomial to divide by it is not needed.
				expect(t, question{"Quotient", r, f, nil, 0}, fuel, answer{g: []sum{constant(rat(1, 1))}, left: fuel})
				expect(t, question{"Quotient", r, f, [][]api.Term{}, 0}, fuel, answer{g: []sum{constant(rat(1, 1))}, left: fuel})
			}
		}
		// Nor is it by the other calls.
		expect(t, question{"Member", r, [][]api.Term{x}, [][]api.Term{x}, 0}, 9, answer{is: true, left: 8})
		expect(t, question{"Subset", r, [][]api.Term{x}, [][]api.Term{y}, 0}, 9, answer{left: 9})
		expect(t, question{"Sum", r, [][]api.Term{x}, [][]api.Term{y}, 0}, 9, answer{g: sumsOf([][]api.Term{y, x}), left: 8})
		expect(t, question{"Product", r, [][]api.Term{x}, [][]api.Term{y}, 0}, 9, answer{g: []sum{times(power(0, 1), power(1, 1))}, left: 9})
		for k := range 7 {
			expect(t, question{"Eliminate", r, [][]api.Term{x}, nil, k}, 9, answer{g: []sum{power(0, 1)}[:max(0, 1-k)], left: 9})
		}
	}
}

// With five variables there is one.
func TestWiderRingOfSix(t *testing.T) {
	for _, r := range rings(5) {
		f, h := parsedList(t, r, "x*u; v"), parsedList(t, r, "v^2; y")
		for _, x := range []struct{ call, g string }{{"Meet", "v^2; y*v; x*y*u"}, {"Quotient", "v; x*u"}} {
			g, _, e := sumOfIdeals(r, parsedList(t, r, x.g))
			if e != api.OK {
				t.Fatal(e)
			}
			expectForms(t, question{x.call, r, f, h, 0}, sumsOf(g))
		}
		g, _, _ := sumOfIdeals(r, parsedList(t, r, "v; u"))
		expectForms(t, question{"Saturate", r, f, parsedList(t, r, "x"), 0}, sumsOf(g))
	}
}
