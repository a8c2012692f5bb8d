package lift_test

import (
	"math/big"
	"slices"
	"testing"

	"primrose/api"
	"primrose/lift"
)

// roomy makes a copy with something behind it, and behind each magnitude.
func roomy(f []api.Int) []api.Int {
	l := make([]api.Int, 0, len(f)+2)
	for _, c := range f {
		l = append(l, api.Int{Neg: c.Neg, Mag: append(slices.Clone(c.Mag), 77, 78)[:len(c.Mag)]})
	}
	return append(l, api.Int{Mag: []uint32{79}}, api.Int{Neg: true, Mag: []uint32{80}})[:len(f)]
}

// behind makes a copy with what stands behind f and behind each magnitude too.
func behind(f []api.Int) []api.Int {
	l := slices.Clone(f[:cap(f)])
	for i, c := range l {
		l[i].Mag = slices.Clone(c.Mag[:cap(c.Mag)])
	}
	return l
}

func roomyLists(l [][]int) [][]int {
	all := make([][]int, 0, len(l)+1)
	for _, f := range l {
		all = append(all, append(slices.Clone(f), 81, -82)[:len(f)])
	}
	return append(all, []int{83})[:len(l)]
}

func behindLists(l [][]int) [][]int {
	all := slices.Clone(l[:cap(l)])
	for i, f := range all {
		all[i] = slices.Clone(f[:cap(f)])
	}
	return all
}

func isSame(f, g []api.Int) bool {
	return slices.EqualFunc(f, g, func(a, b api.Int) bool { return a.Neg == b.Neg && slices.Equal(a.Mag, b.Mag) })
}

// allAnswers are the polynomials that both calls answer.
func allAnswers(f []api.Int, l [][]int, p, k int) [][]api.Int {
	all, _ := lift.Lift(f, l, p, k)
	near, _ := lift.Near(f, p, k)
	return append(all, near)
}

// expectOwnMemory writes into all that was answered, number by number.
func expectOwnMemory(t *testing.T, f []api.Int, l [][]int, p, k int) {
	t.Helper()
	f, l = roomy(f), roomyLists(l)
	keptF, keptL := behind(f), behindLists(l)
	answers := allAnswers(f, l, p, k)
	for i, want := range allAnswers(f, l, p, k) {
		for n, c := range want {
			if got := answers[i][n]; got.Neg != c.Neg || !slices.Equal(got.Mag, c.Mag) {
				t.Fatalf("answer %d, coefficient %d for %d, %d was changed through another one", i, n, p, k)
			}
			mag := answers[i][n].Mag
			for m := range mag {
				mag[m] = 0x55555555
			}
			_ = append(mag, 0x55555555, 0x55555555)
			answers[i][n] = api.Int{Neg: true}
		}
		_ = append(answers[i], api.Int{Neg: true}, api.Int{Neg: true})
		if !isSame(behind(f), keptF) || !slices.EqualFunc(behindLists(l), keptL, slices.Equal) {
			t.Fatalf("answer %d for %d, %d: an argument was changed", i, p, k)
		}
	}
}

// Arguments keep their elements, and so does the memory behind them (R3); each
// list and each number of an answer has memory of its own.
func TestMemory(t *testing.T) {
	for _, p := range primes() {
		s := noise(p + 11)
		for k := range 12 {
			q := power(p, max(k, 1))
			l := s.factors(k%5, 3, p, q)
			f := s.change(product(l), q)
			expectOwnMemory(t, s.loose(f), s.disguiseAll(reducedAll(l, p), p), p, k)
			expectOwnMemory(t, fromBig(product(l)), reducedAll(l, p), p, k)
			expectOwnMemory(t, fromBig(f), append(reducedAll(l, p), nil, []int{1, 1}), p, k)
		}
	}
	for _, p := range noPrimes() {
		expectOwnMemory(t, of(-2, 0, 1, 0), [][]int{{3, 1}, {4, 1}}, p, 3)
	}
}

// The elements of l may be parts of one list that overlap, and the coefficients
// of f may have one magnitude.
func TestOverlappingArguments(t *testing.T) {
	one := []int{4, 1, 1}
	l := [][]*big.Int{bigs(4+7, 1), bigs(4-49, 1+14, 1)}
	expectFactors(t, fromBig(product(l)), [][]int{one[:2], one}, 7, 3, [][]*big.Int{l[0], modulo(l[1], power(7, 3))})
	mag := []uint32{1, 0}
	f := []api.Int{{Neg: true, Mag: mag}, {Mag: mag}, {Neg: true, Mag: mag}, {Mag: mag}}
	expectFactors(t, f, [][]int{{2, 1}, {1, 0, 1}}, 3, 2, [][]*big.Int{bigs(8, 1), bigs(1, 0, 1)})
	expectNear(t, f, 3, 2, bigs(-1, 1, -1, 1))
}
