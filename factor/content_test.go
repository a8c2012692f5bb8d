package factor_test

import (
	"math/big"
	"testing"

	"primrose/api"
	"primrose/factor"
)

// zeros are polynomials that are 0, in all shapes.
func zeros() [][]api.Int {
	return [][]api.Int{
		nil, {}, of(0), of(0, 0, 0), {{Neg: true}}, {{Mag: []uint32{0, 0}}}, {{Neg: true, Mag: []uint32{0}}},
		{{}, {Neg: true, Mag: []uint32{0, 0, 0}}, {Neg: true}, {Mag: []uint32{}}},
	}
}

func expectContent(t *testing.T, f []api.Int) {
	t.Helper()
	c, want := factor.Content(f), content(toBig(f))
	if !isForm([]api.Int{c}, []*big.Int{want}) {
		t.Fatalf("M1: Content of %v: %v, not %v", toBig(f), c, want)
	}
	if g := factor.Primitive(f); !isForm(g, primitive(toBig(f))) {
		t.Fatalf("M1: Primitive of %v: %v, not %v", toBig(f), g, primitive(toBig(f)))
	}
}

func TestM1Examples(t *testing.T) {
	for _, x := range []struct {
		f, primitive []int
		content      int
	}{
		{[]int{4, -6, 0}, []int{-2, 3}, -2},
		{[]int{4, -6}, []int{-2, 3}, -2},
		{[]int{-4, 6, 0, 0}, []int{-2, 3}, 2},
		{[]int{6, 10, 15}, []int{6, 10, 15}, 1},
		{[]int{6, 10, -15}, []int{-6, -10, 15}, -1},
		{[]int{0, 0, 7}, []int{0, 0, 1}, 7},
		{[]int{0, 0, -7, 0}, []int{0, 0, 1}, -7},
		{[]int{1}, []int{1}, 1},
		{[]int{-1}, []int{1}, -1},
		{[]int{12}, []int{1}, 12},
		{[]int{-12, 0}, []int{1}, -12},
		{[]int{0, 1}, []int{0, 1}, 1},
		{[]int{9, 0, 6}, []int{3, 0, 2}, 3},
		{[]int{-9, 0, -6}, []int{3, 0, 2}, -3},
		{[]int{-1 << 63, -1 << 62}, []int{2, 1}, -1 << 62},
	} {
		c, f := factor.Content(of(x.f...)), factor.Primitive(of(x.f...))
		if !isForm([]api.Int{c}, bigs(x.content)) || !isForm(f, bigs(x.primitive...)) {
			t.Errorf("M1: Content and Primitive of %v: %v, %v", x.f, c, f)
		}
		expectContent(t, of(x.f...))
	}
}

func TestM1Zero(t *testing.T) {
	for _, f := range zeros() {
		if c := factor.Content(f); c.Neg || len(c.Mag) != 0 {
			t.Errorf("M1: Content of %v: %v", f, c)
		}
		if g := factor.Primitive(f); len(g) != 0 {
			t.Errorf("M1: Primitive of %v: %v", f, g)
		}
	}
}

// All lists of four small numbers, with zeros before, between and behind them.
func TestM1SmallPolynomials(t *testing.T) {
	for n := range 9 * 9 * 9 * 9 {
		expectContent(t, of(n%9-4, n/9%9-4, n/81%9-4, n/729-4))
	}
}

func TestM1GreatNumbers(t *testing.T) {
	s := noise(1)
	for n := range 300 {
		c := s.great(1 + n)
		var f []*big.Int
		for range 1 + n%7 {
			f = append(f, new(big.Int).Mul(c, s.great(s.below(200))))
		}
		expectContent(t, s.loose(f))
	}
}
