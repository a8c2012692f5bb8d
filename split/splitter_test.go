package split

import (
	"slices"
	"testing"

	"primrose/modular"
)

// Each second choice, together, is a power of x with a residue, and in n*p of
// them each of these pairs comes once, whatever the draws are.
func TestSystematicChoices(t *testing.T) {
	for _, draws := range [][]int{nil, {5, -6, 7}, slices.Repeat([]int{0}, 100)} {
		for _, p := range []int{2, 3, 7} {
			for n := 1; n < 8; n++ {
				s := newSplitter(p, draws)
				for range 9 {
					s.next(n + 3)
				}
				seen := map[[2]int]int{}
				for range n * p {
					h, c := s.next(n)
					if len(h) != n || slices.Max(h) != 1 || c < 0 || c >= p {
						t.Fatalf("choice %v, %d of %d coefficients modulo %d", h, c, n, p)
					}
					seen[[2]int{slices.Index(h, 1), c}]++
					if h, c := s.next(n); len(h) != n || slices.Min(h) < 0 || slices.Max(h) >= p || c != 0 {
						t.Fatalf("choice %v, %d of %d coefficients modulo %d", h, c, n, p)
					}
				}
				if len(seen) != n*p {
					t.Errorf("%d coefficients modulo %d: %d choices", n, p, len(seen))
				}
			}
		}
	}
}

// biased leaves out the choices that depend on chance: without them, each call
// ends too.
func biased(p int) splitter {
	s := newSplitter(p, nil)
	return splitter{p, func(n int) ([]int, int) {
		s.next(n)
		return s.next(n)
	}}
}

func TestSystematicChoicesSplit(t *testing.T) {
	for _, x := range []struct {
		p, degree int
		l         [][]int
	}{
		{2, 1, [][]int{{0, 1}, {1, 1}}},
		{2, 3, [][]int{{1, 1, 0, 1}, {1, 0, 1, 1}}},
		{2, 4, [][]int{{1, 1, 0, 0, 1}, {1, 0, 0, 1, 1}, {1, 1, 1, 1, 1}}},
		{3, 2, [][]int{{1, 0, 1}, {2, 1, 1}, {2, 2, 1}}},
		{3, 3, [][]int{{1, 2, 0, 1}, {2, 2, 0, 1}}},
		{5, 5, [][]int{{1, 4, 0, 0, 0, 1}, {2, 4, 0, 0, 0, 1}, {3, 4, 0, 0, 0, 1}, {4, 4, 0, 0, 0, 1}}},
		{101, 1, [][]int{{0, 1}, {1, 1}, {2, 1}, {50, 1}, {51, 1}, {100, 1}}},
		{1<<31 - 1, 2, [][]int{{1, 0, 1}, {2, 2, 1}, {5, 4, 1}, {2, 1<<31 - 3, 1}}},
	} {
		f := []int{1}
		for _, g := range x.l {
			f = modular.Mul(f, g, x.p)
		}
		got := biased(x.p).factors(f, x.degree)
		want := slices.Clone(x.l)
		slices.SortFunc(got, compare)
		slices.SortFunc(want, compare)
		if !slices.EqualFunc(got, want, slices.Equal[[]int]) {
			t.Errorf("%v modulo %d: %v", f, x.p, got)
		}
	}
}

// A part is a divisor, and neither 1 nor all.
func TestPart(t *testing.T) {
	for _, x := range []struct {
		p, degree int
		f         []int
	}{
		{2, 1, []int{0, 1, 1}}, {2, 3, []int{1, 1, 1, 1, 1, 1, 1}}, {3, 1, []int{0, 2, 0, 1}}, {5, 2, []int{1, 0, 0, 0, 1}}, {17, 1, []int{1, 0, 0, 0, 1}},
	} {
		for draw := range 50 {
			part := newSplitter(x.p, []int{draw, -draw}).part(x.f, x.degree)
			_, r, _ := modular.DivMod(x.f, part, x.p)
			if len(r) != 0 || len(part) == 1 || len(part) >= len(x.f) || (len(part)-1)%x.degree != 0 {
				t.Errorf("a part of %v modulo %d: %v", x.f, x.p, part)
			}
		}
	}
}

func TestRadical(t *testing.T) {
	for _, x := range []struct {
		p       int
		f, want []int
	}{
		{2, []int{1}, []int{1}}, {2, []int{1, 0, 1}, []int{1, 1}}, {3, []int{0, 0, 0, 1}, []int{0, 1}}, {3, []int{1, 0, 0, 1}, []int{1, 1}},
		{2, []int{0, 0, 1, 0, 1}, []int{0, 1, 1}}, {2, []int{0, 1, 0, 0, 0, 1}, []int{0, 1, 1}}, {5, []int{1, 2, 1}, []int{1, 1}}, {5, []int{4, 0, 1}, []int{4, 0, 1}},
	} {
		if got := radical(x.f, x.p); !slices.Equal(got, x.want) {
			t.Errorf("radical of %v modulo %d: %v", x.f, x.p, got)
		}
	}
}
