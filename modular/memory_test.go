package modular_test

import (
	"math"
	"slices"
	"testing"

	"primrose/modular"
)

// roomy makes a copy with something behind it.
func roomy(f []int) []int {
	return append(slices.Clone(f), 77, 78, -79)[:len(f)]
}

// behind makes a copy with what stands behind f too.
func behind(f []int) []int {
	return slices.Clone(f[:cap(f)])
}

// allAnswers are the lists that the calls answer for the arguments.
func allAnswers(f, g []int, c, p int) [][]int {
	q, r, _ := modular.DivMod(f, g, p)
	none, short, _ := modular.DivMod(g, append(slices.Clone(f), 1), p)
	power, _ := modular.Pow(f, 3, g, p)
	first, _ := modular.Pow(f, 1, append(slices.Clone(f), 1), p)
	one, _ := modular.Pow(f, 0, []int{0, 1}, p)
	own, _ := modular.Pow(f, c, f, p)
	return [][]int{
		modular.Plain(f, p), modular.Plain(g, p), modular.Add(f, g, p), modular.Add(f, nil, p), modular.Add(nil, g, p), modular.Add(f, f, p),
		modular.Sub(f, g, p), modular.Sub(f, nil, p), modular.Sub(nil, g, p), modular.Sub(f, f, p), modular.Scale(f, c, p), modular.Scale(f, 1, p),
		modular.Mul(f, g, p), modular.Mul(f, f, p), modular.Mul([]int{1}, g, p), modular.Mul(f, []int{1}, p), q, r, none, short,
		modular.Monic(f, p), modular.Monic(g, p), modular.Gcd(f, g, p), modular.Gcd(f, nil, p), modular.Gcd(nil, g, p), modular.Gcd(f, f, p),
		modular.Deriv(f, p), modular.Deriv(g, p), {modular.Eval(f, c, p), modular.Eval(g, c, p)}, power, first, one, own,
	}
}

func expectOwnMemory(t *testing.T, f, g []int, c, p int) {
	t.Helper()
	keptF, keptG := behind(f), behind(g)
	answers := allAnswers(f, g, c, p)
	for i, want := range allAnswers(f, g, c, p) {
		if !slices.Equal(answers[i], want) {
			t.Errorf("answer %d for %v, %v, %d modulo %d was changed through another one", i, f, g, c, p)
		}
		for k := range answers[i] {
			answers[i][k] = -1
		}
		_ = append(answers[i], -1, -1, -1)
		if !slices.Equal(behind(f), keptF) || !slices.Equal(behind(g), keptG) {
			t.Fatalf("answer %d modulo %d: an argument was changed", i, p)
		}
	}
}

// Arguments keep their coefficients, and so does the memory behind them (R3);
// each answer has memory of its own; what is done to it changes no other answer
// and no later one (R4).
func TestMemory(t *testing.T) {
	for _, p := range append(primes(), 0, 4, -5, 1<<31) {
		s := noise(p)
		for n := range 7 {
			prime := max(p, 2)
			f, g := s.list(n, prime), s.plain(1+n%3, prime)
			expectOwnMemory(t, roomy(f), roomy(g), math.MinInt, p)
			expectOwnMemory(t, roomy(g), roomy(f), 3, p)
			expectOwnMemory(t, roomy(modular.Plain(f, p)), roomy(modular.Monic(g, p)), math.MaxInt, p)
			expectOwnMemory(t, roomy(modular.Mul(f, g, p)), roomy(g), 0, p)
		}
		expectOwnMemory(t, roomy([]int{p, 0}), roomy([]int{1, p}), 1, p)
	}
}

// Arguments may be one list, or parts of one.
func TestOverlappingArguments(t *testing.T) {
	for _, p := range primes() {
		s := noise(p)
		all := append(s.list(6, p), 1, 1)
		for _, pair := range [][2][]int{{all, all}, {all, all[:7]}, {all[2:], all}, {all[:7], all[1:]}} {
			f, g := slices.Clone(pair[0]), slices.Clone(pair[1])
			answers := allAnswers(pair[0], pair[1], 5, p)
			for i, want := range allAnswers(f, g, 5, p) {
				expect(t, answers[i], want, "answer", i, p)
			}
			if !slices.Equal(f, pair[0]) || !slices.Equal(g, pair[1]) {
				t.Fatalf("modulo %d: an argument was changed", p)
			}
		}
	}
}
