package primary_test

import (
	"fmt"
	"testing"

	"primrose/api"
)

// ends are the parts of a call, and the numbers of steps up to their ends.
func (w told) ends() (names []string, steps []int) {
	all := 0
	for _, p := range w.parts {
		all += p.steps
		if p.steps > 0 {
			names, steps = append(names, p.name), append(steps, all)
		}
	}
	return names, steps
}

// expectEnough holds a call with as much fuel as it needs, and more, against what it
// answers with all of it.
func expectEnough(t *testing.T, q question, all reply) {
	t.Helper()
	steps := api.MaxFuel - all.left
	for _, more := range []int{0, 1, 2, 1000, api.MaxFuel - steps - 1, api.MaxFuel - steps} {
		all.left = more
		expect(t, q, steps+more, all)
	}
}

// With each amount of fuel up to what is needed the error is ErrFuel, in each of the parts
// of a call; beyond it what is left grows by as much.
func TestFuelOfSamples(t *testing.T) {
	t.Parallel()
	for k, call := range calls() {
		t.Run(call, func(t *testing.T) {
			t.Parallel()
			s, samples, found := noise(70+k), 0, map[string]int{}
			for n := 1; n <= 5; n++ {
				for _, r := range rings(n) {
					for range 4 {
						q := question{call, r, s.anyForms(s.sampleIdeal(t, r))}
						if a, _ := q.words(250); a.e != api.OK {
							continue
						}
						all, way := expectWords(t, q, api.MaxFuel)
						names, ends := way.ends()
						from := 0
						for i, end := range ends {
							for fuel := from; fuel < end; fuel += 1 + (end-from)/5 {
								expectNothing(t, q, fuel, api.ErrFuel)
							}
							expectNothing(t, q, end-1, api.ErrFuel)
							found[names[i]]++
							from = end
						}
						expectEnough(t, q, all)
						samples++
					}
				}
			}
			if samples < 60 {
				t.Errorf("only %d samples", samples)
			}
			for name, least := range map[string]int{"basis": 1, "halve": 40, "middle": 100, "contract": 100, "degree": 5, "meet": 60, "divide": 5} {
				if found[name] < least {
					t.Errorf("only %d times the fuel ends in %s", found[name], name)
				}
			}
		})
	}
}

// Each amount of fuel for ideals with several halves, of which the last one is the whole
// ring or not, with s beyond 1, with redundant components, and with embedded primes.
func TestFuelOfExamples(t *testing.T) {
	t.Parallel()
	for _, text := range []string{"x^2; x*y", "x^2*y", "x*y; x*z", "3*x*z; 3*x*y + z", "x^2 - 2; y^2 - y; z", "2*x^2 - x; x*y", "y^2; x*y - y", "x*y; x*z; y*z"} {
		for _, call := range calls() {
			t.Run("", func(t *testing.T) {
				t.Parallel()
				r := lex(3)
				q := question{call, r, parsedList(t, r, text)}
				all, _ := expectWords(t, q, api.MaxFuel)
				for fuel := range api.MaxFuel - all.left {
					expectNothing(t, q, fuel, api.ErrFuel)
				}
				expectEnough(t, q, all)
			})
		}
	}
}

// manySteps is an ideal whose first basis takes as many steps as the exponents of z are in
// all. The coefficient of each power of y becomes 1.
func manySteps(t *testing.T, r api.Ring, each, last int) [][]api.Term {
	t.Helper()
	p := "y^18 + 1"
	for k := range 16 {
		p += fmt.Sprintf(" + y^%d*z^%d", k, each)
	}
	return parsedList(t, r, fmt.Sprintf("w; z - 1; %s + y^16*z^%d", p, last))
}

// Exactly MaxFuel steps, and one more.
func TestAllFuel(t *testing.T) {
	t.Parallel()
	r := api.Ring{Names: []string{"y", "w", "z"}}
	for _, call := range calls() {
		few, _ := question{call, r, manySteps(t, r, 1, 1)}.words(api.MaxFuel)
		exactly := few.left - 16*(65000-1) + 1
		for more, e := range []api.Errno{api.OK, api.ErrFuel} {
			t.Run(call, func(t *testing.T) {
				t.Parallel()
				want := reply{e: e}
				if e == api.OK {
					want = few
					want.left = 0
				}
				expect(t, question{call, r, manySteps(t, r, 65000, exactly+more)}, api.MaxFuel, want)
			})
		}
	}
}
