package factor_test

import (
	"math/big"
	"slices"
	"testing"

	"primrose/api"
	"primrose/factor"
)

// roomy makes a copy with something behind it, and behind each magnitude.
func roomy(f []api.Int) []api.Int {
	l := make([]api.Int, 0, len(f)+2)
	for _, c := range f {
		l = append(l, api.Int{Neg: c.Neg, Mag: append(slices.Clone(c.Mag), 77, 78)[:len(c.Mag)]})
	}
	return append(l, api.Int{Mag: []uint32{79}}, api.Int{Neg: true, Mag: []uint32{80}})[:len(f)]
}

// behind makes a copy with what stands behind f and behind each magnitude too.
func behind(f []api.Int) []api.Int {
	l := slices.Clone(f[:cap(f)])
	for i, c := range l {
		l[i].Mag = slices.Clone(c.Mag[:cap(c.Mag)])
	}
	return l
}

func areEqual(f, g []api.Int) bool {
	return slices.EqualFunc(f, g, func(a, b api.Int) bool { return a.Neg == b.Neg && slices.Equal(a.Mag, b.Mag) })
}

// allAnswers are the polynomials and numbers that all calls answer.
func allAnswers(f, g []api.Int) [][]api.Int {
	content, l, _ := factor.Factor(f)
	all := [][]api.Int{{factor.Content(f), content}, factor.Primitive(f)}
	for _, x := range l {
		all = append(all, x.P)
	}
	quotient, _ := factor.Divides(f, g)
	return append(all, quotient)
}

// expectOwnMemory writes into all that was answered, number by number.
func expectOwnMemory(t *testing.T, f, g []api.Int) {
	t.Helper()
	f, g = roomy(f), roomy(g)
	keptF, keptG := behind(f), behind(g)
	answers := allAnswers(f, g)
	for i, want := range allAnswers(f, g) {
		if !areEqual(answers[i], want) {
			t.Fatalf("answer %d for %v was changed through another one, or is another one now", i, toBig(f))
		}
		for n := range answers[i] {
			mag := answers[i][n].Mag
			for m := range mag {
				mag[m] = 0x55555555
			}
			_ = append(mag, 0x55555555, 0x55555555)
			answers[i][n] = api.Int{Neg: true}
			if !areEqual(answers[i][n+1:], want[n+1:]) {
				t.Fatalf("answer %d for %v: number %d was changed through another one", i, toBig(f), n)
			}
		}
		_ = append(answers[i], api.Int{Neg: true}, api.Int{Neg: true})
		if !areEqual(behind(f), keptF) || !areEqual(behind(g), keptG) {
			t.Fatalf("answer %d for %v: an argument was changed", i, toBig(f))
		}
	}
}

// Arguments keep their elements, and so does the memory behind them (R3); each
// list and each number of an answer has memory of its own.
func TestMemory(t *testing.T) {
	s := noise(18)
	for n := range 200 {
		f, g := s.eisenstein(1+n%4, 3, n), s.linear(1+n)
		all := mul(scaled(f, s.great(n%50)), mul(g, g))
		expectOwnMemory(t, s.loose(all), s.loose(g))
		expectOwnMemory(t, fromBig(all), fromBig(f))
		expectOwnMemory(t, fromBig(f), fromBig(f))
		expectOwnMemory(t, fromBig(g), of(1))
		expectOwnMemory(t, s.loose(f), s.loose(bigs(-1)))
	}
	for _, f := range append(zeros(), of(1), of(-12), of(0, 0, -3), of(1, 0, 0, 0, 1), of(-1, 0, 1), fromBig(steps(13)), fromBig(steps(12))) {
		for _, g := range append(zeros(), of(1), of(3), of(1, 1)) {
			expectOwnMemory(t, f, g)
		}
	}
}

// The coefficients may have one magnitude, and f and g may be parts of one list.
func TestOverlappingArguments(t *testing.T) {
	mag := []uint32{5, 1, 0}
	f := []api.Int{{Neg: true, Mag: mag[:2]}, {Mag: mag}, {Neg: true, Mag: mag}, {Mag: mag[:2]}}
	c := big.NewInt(1<<32 + 5)
	expectFactors(t, f, c, []known{one(1, -1, 1), one(1, 1, 0, 1)})
	expectDivides(t, f, f[2:])
	expectDivides(t, f, f[3:])
	expectDivides(t, f[1:], f)
	expectContent(t, f)
	if q, ok := factor.Divides(f, f[2:]); !ok || !isForm(q, bigs(1, 0, 1)) {
		t.Errorf("M3: %v, %t", q, ok)
	}
}
