package extend_test

import (
	"maps"
	"slices"
	"testing"

	"primrose/api"
)

// With each amount of fuel up to what is needed the error is ErrFuel, in each of the
// bases of a call; beyond it what is left grows by as much.
func TestFuelOfSamples(t *testing.T) {
	t.Parallel()
	for call, places := range map[string][]int{"Contract": {1, 2, 3}, "Halve": {1, 2, 3, 4, 5, 6, 7}, "Degree": {1}} {
		t.Run(call, func(t *testing.T) {
			t.Parallel()
			s, samples, found := noise(70), 0, map[int]int{}
			for _, r := range allRings() {
				n := len(r.Names)
				for k := range 8 {
					f := s.sampleIdeal(n, 2)
					if n > 1 && k == 0 {
						f = s.chain(n, s.below(n), 1+s.below(min(n-1, 2)))
					}
					q := question{call, r, s.anyForms(r, f), s.set(n)}
					if q.words(120).e == api.OK {
						expectFuel(t, q, found)
						samples++
					}
				}
			}
			if samples < 60 {
				t.Errorf("only %d samples of %s", samples, call)
			}
			for _, place := range places {
				if found[place] == 0 {
					t.Errorf("%s: no fuel ends in %d", call, place)
				}
			}
		})
	}
}

// Questions whose fuel may end in each of the bases that take any.
func TestFuelInEachPlace(t *testing.T) {
	for _, x := range []struct {
		names   int
		call, f string
		u       []int
		places  []int
	}{
		{2, "Contract", "x*y - 1; y^2 - 1", none, []int{1, 2, 3}}, {2, "Contract", "x*y", y, []int{2}}, {2, "Contract", "x*y; x^2", y, []int{1, 2}},
		{3, "Contract", "x*z; y*z", []int{2}, []int{1, 2, 3}},
		{2, "Degree", "x*y - 1; y^2 - 1", none, []int{1}}, {2, "Degree", "x*y", y, nil},
		{2, "Halve", "x; y", nil, []int{1, 2, 3, 4}}, {1, "Halve", "x", nil, []int{3}}, {2, "Halve", "x*y; x^2", nil, []int{1, 2, 3, 5}},
		{3, "Halve", "x*y - z; y*z; x^3", nil, []int{1, 2, 3, 4, 5, 6, 7, 8, 9, 10}},
	} {
		r, found := lex(x.names), map[int]int{}
		expectFuel(t, question{x.call, r, parsedList(t, r, x.f), x.u}, found)
		if places := slices.Sorted(maps.Keys(found)); !slices.Equal(places, x.places) {
			t.Errorf("%s of %s by %v: the fuel ends in %v", x.call, x.f, x.u, places)
		}
	}
}

// Exactly MaxFuel steps, and one more: one of the pair, the others of the divisions of
// the basis by itself.
func TestAllFuel(t *testing.T) {
	t.Parallel()
	r := lex(3)
	for _, x := range []struct {
		last int
		want answer
	}{{limit - 1, answer{}}, {limit, answer{e: api.ErrFuel}}} {
		t.Run("", func(t *testing.T) {
			t.Parallel()
			p := power(0, 1)
			for k := range api.MaxFuel / limit {
				n := limit
				if k == 0 {
					n = x.last
				}
				p.add(key{0, k, n}, rat(1, 1))
			}
			f := [][]api.Term{p.terms(r), parsed(t, r, "z - 1")}
			expect(t, question{"Degree", r, f, []int{1, 2}}, api.MaxFuel, x.want)
		})
	}
}
