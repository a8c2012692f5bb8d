package point_test

import (
	"fmt"
	"testing"

	"primrose/api"
)

// With each amount of fuel up to what is needed the error is ErrFuel, in each of the
// bases of a call; beyond it what is left grows by as much.
func TestFuelOfSamples(t *testing.T) {
	t.Parallel()
	for call, most := range map[string]int{"Least": 4, "Radical": 8, "Components": 18} {
		t.Run(call, func(t *testing.T) {
			t.Parallel()
			s, samples, found := noise(70), 0, map[int]int{}
			for n := 1; n <= 5; n++ {
				for _, r := range rings(n) {
					for range 5 {
						u := s.part(n)
						q := question{call, r, s.anyForms(r, s.sampleIdeal(t, r, u)), u, s.form(n - len(u))}
						if q.words(150).e == api.OK {
							expectFuel(t, q, found)
							samples++
						}
					}
				}
			}
			if samples < 45 {
				t.Errorf("only %d samples of %s", samples, call)
			}
			for place := 1; place <= most; place++ {
				if found[place] == 0 {
					t.Errorf("%s: no fuel ends in %d", call, place)
				}
			}
		})
	}
}

// An attempt that fails takes fuel: with as much as it takes the error is ErrFuel.
func TestFuelOfAttempts(t *testing.T) {
	t.Parallel()
	for _, x := range []struct {
		f      string
		failed int
	}{{"x; y^2 - y", 1}, {"x^2 - 2; y^2 - 3", 1}, {"x^2 - 2; y^2 - 2", 2}, {"x^2 - x; x*y - y; y^2 - y", 1}} {
		for _, r := range []api.Ring{lex(2), {Names: letters(2), Order: api.Grevlex}} {
			q := question{"Components", r, parsedList(t, r, x.f), none, nil}
			expectFuel(t, q, map[int]int{})
			if a := q.words(api.MaxFuel); len(a.failed) != x.failed {
				t.Errorf("T3: %v: %v", q, a.failed)
			}
		}
	}
}

// Exactly MaxFuel steps, and one more. Each of the terms with z takes as many steps as
// z's exponent in the first two bases, and w's power takes its exponent in that of the
// middle ring; all else takes 21.
func TestAllFuel(t *testing.T) {
	t.Parallel()
	r := api.Ring{Names: []string{"w", "y", "z"}}
	p := "y^65536"
	for k := range 9 {
		p += fmt.Sprintf(" + y^%d*z^58000", k)
	}
	exactly := api.MaxFuel - 2*9*58000 - 21
	for _, x := range []struct {
		power int
		e     api.Errno
	}{{exactly, api.OK}, {exactly + 1, api.ErrFuel}} {
		t.Run("", func(t *testing.T) {
			t.Parallel()
			q := question{"Least", r, parsedList(t, r, fmt.Sprintf("w^%d - 2; z - 1; %s", x.power, p)), none, []int{1, 0, 0}}
			want := answer{e: x.e}
			if x.e == api.OK {
				want.p = minus(power(0, x.power), constant(rat(2, 1)))
			}
			expect(t, q, api.MaxFuel, want)
		})
	}
}
