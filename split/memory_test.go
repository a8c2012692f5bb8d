package split_test

import (
	"slices"
	"testing"

	"primrose/split"
)

// roomy makes a copy with something behind it.
func roomy(f []int) []int {
	return append(slices.Clone(f), 77, 78, -79)[:len(f)]
}

// behind makes a copy with what stands behind f too.
func behind(f []int) []int {
	return slices.Clone(f[:cap(f)])
}

// allAnswers are the lists that the calls answer for the arguments.
func allAnswers(f []int, p int, draws []int) [][]int {
	factors, _ := split.Factor(f, p, draws)
	products, _ := split.Degrees(f, p)
	split.Irreducible(f, p)
	return slices.Concat(factors, products)
}

func expectOwnMemory(t *testing.T, f []int, p int, draws []int) {
	t.Helper()
	f, draws = roomy(f), roomy(draws)
	keptF, keptDraws := behind(f), behind(draws)
	answers := allAnswers(f, p, draws)
	for i, want := range allAnswers(f, p, draws) {
		if !slices.Equal(answers[i], want) {
			t.Fatalf("answer %d for %v modulo %d was changed through another one", i, f, p)
		}
		for k := range answers[i] {
			answers[i][k] = -1
		}
		_ = append(answers[i], -1, -1, -1)
		if !slices.Equal(behind(f), keptF) || !slices.Equal(behind(draws), keptDraws) {
			t.Fatalf("answer %d modulo %d: an argument was changed", i, p)
		}
	}
}

// Arguments keep their elements, and so does the memory behind them (R3); each
// list of an answer has memory of its own, also those that are equal.
func TestMemory(t *testing.T) {
	draws := []int{1, -2, 3, 4}
	for _, p := range append(primes(), 0, 4, -5, 1<<31) {
		s := noise(p)
		least := max(p, 2)
		for n := range 12 {
			f := s.plain(n, least)
			expectOwnMemory(t, f, p, draws)
			expectOwnMemory(t, s.disguise(f, least), p, draws)
			expectOwnMemory(t, append(make([]int, n), 1), p, draws)
			expectOwnMemory(t, product(slices.Repeat([][]int{{1, 1}, {1, 0, 1}}, 1+n/3), least), p, nil)
		}
		expectOwnMemory(t, []int{p, 0}, p, nil)
	}
}

// The polynomial and the draws may be one list.
func TestOneListForBoth(t *testing.T) {
	for _, p := range primes() {
		s := noise(p)
		for n := range 10 {
			f := s.plain(n+1, p)
			l, e := split.Factor(f, p, f)
			if want := factored(t, slices.Clone(f), p); !isSame(l, want) || e != 0 {
				t.Errorf("Factor of %v modulo %d: %v, %d", f, p, l, e)
			}
		}
	}
}
