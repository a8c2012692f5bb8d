package ideal_test

import (
	"maps"
	"slices"
	"testing"

	"primrose/api"
)

// With each amount of fuel up to what is needed the error is ErrFuel, in each of the
// bases and divisions of a call; beyond it what is left grows by as much.
func TestFuelOfSamples(t *testing.T) {
	for call, places := range map[string][]int{
		"Member": {1, 2}, "Subset": {1, 2, 3, 4}, "Sum": {1}, "Product": {1}, "Eliminate": {1, 2}, "Meet": {1, 2},
		"Quotient": {1, 3, 4, 6, 8, 9}, "Saturate": {1, 2, 3, 4},
	} {
		t.Run(call, func(t *testing.T) {
			t.Parallel()
			s, samples, found := noise(70), 0, map[int]int{}
			for _, r := range allRings() {
				for range 9 {
					q := s.sampleQuestion(call, r, 2)
					if q.words(60).e == api.OK {
						expectFuel(t, q, found)
						samples++
					}
				}
			}
			if samples < 100 {
				t.Errorf("only %d samples of %s", samples, call)
			}
			for _, place := range places {
				if found[place] == 0 {
					t.Errorf("%s: no fuel ends in %d", call, place)
				}
			}
		})
	}
}

// Questions whose fuel may end in each of the bases and divisions that take any.
func TestFuelInEachPlace(t *testing.T) {
	for _, x := range []struct {
		variables  int
		call, f, h string
		k          int
		places     []int
	}{
		{2, "Member", "x*y - 1; y^2 - 1", "x^3 - y", 0, []int{1, 2}},
		{2, "Subset", "x; 0; y; x*y; x^2 + y", "x + y; x - y", 0, []int{1, 2, 4, 5, 6}},
		{2, "Sum", "x*y - 1", "y^2 - 1", 0, []int{1}},
		{2, "Product", "x; y", "x; y", 0, []int{1}},
		{2, "Eliminate", "y^2 - 1; x^2", "", 0, []int{1}},
		{3, "Eliminate", "x - y; y^2 - z^3; y*z - z; x - z", "", 1, []int{1, 2}},
		{2, "Meet", "x; y", "x - 1; y", 0, []int{1, 2}},
		{2, "Quotient", "x^2; x*y", "x; y", 0, []int{1, 2, 3, 4, 5, 6, 9}},
		{2, "Quotient", "x^2; y^2", "x; 0; y", 0, []int{1, 2, 3, 4, 5, 6, 7, 8, 9, 10, 11, 12}},
		{2, "Saturate", "x^2; x*y", "x + 1", 0, []int{1, 2, 3}},
		{2, "Saturate", "x^2; x*y; y^3", "x + y", 0, []int{1, 3, 4, 5, 6, 7, 8, 9, 10}},
	} {
		r, found := lex(x.variables), map[int]int{}
		expectFuel(t, question{x.call, r, parsedList(t, r, x.f), parsedList(t, r, x.h), x.k}, found)
		if places := slices.Sorted(maps.Keys(found)); !slices.Equal(places, x.places) {
			t.Errorf("%s of %s and %s: the fuel ends in %v", x.call, x.f, x.h, places)
		}
	}
}

// Exactly MaxFuel steps, and one more: those of a basis and of a division behind it.
func TestAllFuel(t *testing.T) {
	r := lex(3)
	by := parsed(t, r, "z - 1")
	for _, x := range []struct {
		last int
		want api.Errno
	}{{limit - 1, api.OK}, {limit, api.ErrFuel}} {
		t.Run("", func(t *testing.T) {
			t.Parallel()
			p := sum{}
			for k := range api.MaxFuel / limit {
				n := limit
				if k == 0 {
					n = x.last
				}
				p.add(key{0, k, n}, rat(1, 1))
			}
			// One step for the pair, and one for each power of z in p.
			q := question{"Member", r, [][]api.Term{by, power(0, 1).terms(r)}, [][]api.Term{p.terms(r)}, 0}
			expect(t, q, api.MaxFuel, answer{e: x.want})
		})
	}
}
