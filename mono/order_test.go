package mono_test

import (
	"cmp"
	"math"
	"slices"
	"testing"

	"primrose/api"
	"primrose/mono"
)

// weights returns an order as a list of weights: the greater monomial is the one
// whose exponents have the greater sum by the first weights that tell.
func weights(r api.Ring) [][]int {
	n := len(r.Names)
	switch r.Order {
	case api.Lex:
		return units(n)
	case api.Grlex:
		return append(ones(0, n, n), units(n)...)
	case api.Grevlex:
		return append(ones(0, n, n), negatives(0, n, n)...)
	}
	all := append(ones(0, r.First, n), negatives(0, r.First, n)...)
	all = append(all, ones(r.First, n, n)...)
	return append(all, negatives(r.First, n, n)...)
}

// units weigh each variable, from the first to the last.
func units(n int) [][]int {
	var all [][]int
	for i := range n {
		all = append(all, unit(i, n, 1))
	}
	return all
}

// negatives weigh each variable of a range with -1, from the last to the first.
func negatives(from, to, n int) [][]int {
	var all [][]int
	for i := to - 1; i >= from; i-- {
		all = append(all, unit(i, n, -1))
	}
	return all
}

func unit(i, n, x int) []int {
	w := make([]int, n)
	w[i] = x
	return w
}

// ones weigh the variables of a range alike.
func ones(from, to, n int) [][]int {
	w := make([]int, n)
	for i := from; i < to; i++ {
		w[i] = 1
	}
	return [][]int{w}
}

func weigh(w, e []int) int {
	total := 0
	for i, x := range w {
		total += x * e[i]
	}
	return total
}

func wantedOrder(r api.Ring, a, b []int) int {
	for _, w := range weights(r) {
		if c := cmp.Compare(weigh(w, a), weigh(w, b)); c != 0 {
			return c
		}
	}
	return 0
}

// monomials returns all lists of n of the given exponents.
func monomials(n int, exponents ...int) [][]int {
	all := [][]int{{}}
	for range n {
		var longer [][]int
		for _, e := range all {
			for _, x := range exponents {
				longer = append(longer, append(slices.Clone(e), x))
			}
		}
		all = longer
	}
	return all
}

// samples are monomials of n variables, small and great ones: not so many that
// pairs of them take long.
func samples(n int) [][]int {
	switch n {
	case 1:
		return monomials(1, 0, 1, 2, 3, 10, limit/2, limit-1, limit)
	case 2:
		return monomials(2, 0, 1, 2, 3, limit-1, limit)
	case 3:
		return monomials(3, 0, 1, 2, limit)
	case 4:
		return monomials(4, 0, 1, limit)
	}
	return monomials(n, 0, 1)
}

// expectCmp holds Cmp against want both ways.
func expectCmp(t *testing.T, r api.Ring, a, b []int, want int) {
	t.Helper()
	if got := mono.Cmp(r, a, b); got != want {
		t.Errorf("Cmp(%v, %v, %v) is %d, not %d", r, a, b, got, want)
	}
	if got := mono.Cmp(r, b, a); got != -want {
		t.Errorf("Cmp(%v, %v, %v) is %d, not %d", r, b, a, got, -want)
	}
}

func TestF4Cmp(t *testing.T) {
	for n := 1; n <= 6; n++ {
		all := samples(n)
		for _, r := range rings(n) {
			for _, a := range all {
				for _, b := range all {
					expectCmp(t, r, a, b, wantedOrder(r, a, b))
				}
			}
		}
	}
}

// The document's examples, and monomials of equal degrees for which the first
// or the last index decides.
func TestF4EachOrder(t *testing.T) {
	for _, x := range []struct {
		a, b []int
		want [6]int // by Lex, Grlex, Grevlex, and Block with First 1, 2 and 3
	}{
		{[]int{1, 0, 0, 0}, []int{0, 5, 0, 0}, [6]int{1, -1, -1, 1, -1, -1}},
		{[]int{1, 0, 1, 0}, []int{0, 2, 0, 0}, [6]int{1, 1, -1, 1, -1, -1}},
		{[]int{1, 0, 0, 0}, []int{0, 9, 0, 0}, [6]int{1, -1, -1, 1, -1, -1}},
		{[]int{2, 1, 1, 0}, []int{1, 2, 1, 0}, [6]int{1, 1, 1, 1, 1, 1}},
		{[]int{1, 1, 1, 1}, []int{1, 1, 0, 2}, [6]int{1, 1, 1, 1, 1, 1}},
		{[]int{2, 0, 0, 1}, []int{1, 2, 0, 0}, [6]int{1, 1, -1, 1, -1, -1}},
		{[]int{1, 0, 0, 1}, []int{0, 1, 1, 0}, [6]int{1, 1, -1, 1, 1, -1}},
		{[]int{1, 0, 1, 0}, []int{0, 1, 0, 1}, [6]int{1, 1, 1, 1, 1, 1}},
		{[]int{0, 1, 0, 1}, []int{0, 0, 2, 0}, [6]int{1, 1, -1, -1, 1, -1}},
		{[]int{0, 0, 3, 0}, []int{0, 0, 0, 3}, [6]int{1, 1, 1, 1, 1, 1}},
		{[]int{0, 0, 0, 0}, []int{0, 0, 0, 1}, [6]int{-1, -1, -1, -1, -1, -1}},
		{[]int{1, 0, 0, 2}, []int{1, 0, 1, 0}, [6]int{-1, 1, 1, 1, 1, -1}},
		{[]int{3, 3, 3, 3}, []int{3, 3, 3, 3}, [6]int{0, 0, 0, 0, 0, 0}},
		{[]int{limit, 0, 0, 0}, []int{0, 0, 0, limit}, [6]int{1, 1, 1, 1, 1, 1}},
		{[]int{1, 0, 0, 0}, []int{0, limit, limit, limit}, [6]int{1, -1, -1, 1, -1, -1}},
		{[]int{0, 1, 0, 0}, []int{0, 0, limit, limit}, [6]int{1, -1, -1, -1, 1, -1}},
		{[]int{0, 0, 1, 0}, []int{0, 0, 0, limit}, [6]int{1, -1, -1, -1, -1, 1}},
	} {
		for i, r := range rings(4) {
			expectCmp(t, r, x.a, x.b, x.want[i])
		}
	}
}

func TestF4WrongExponents(t *testing.T) {
	for n := 1; n <= 4; n++ {
		for _, r := range rings(n) {
			for i := range n {
				for _, x := range wrongExponents() {
					a, b := make([]int, n), slices.Repeat([]int{2}, n)
					a[i] = x
					expectCmp(t, r, a, b, 0)
					expectCmp(t, r, a, make([]int, n), 0)
					expectCmp(t, r, a, a, 0)
				}
			}
		}
	}
	expectCmp(t, rings(2)[0], []int{math.MinInt, 0}, []int{math.MaxInt, 0}, 0)
}

func TestF4WrongLengths(t *testing.T) {
	for n := 1; n <= 6; n++ {
		for _, r := range rings(n) {
			for i := range 9 {
				for j := range 9 {
					if i == n && j == n {
						continue
					}
					expectCmp(t, r, slices.Repeat([]int{1}, i), slices.Repeat([]int{3}, j), 0)
					expectCmp(t, r, slices.Repeat([]int{3}, i), slices.Repeat([]int{1}, j), 0)
				}
			}
			expectCmp(t, r, nil, nil, 0)
		}
	}
}

func TestF4WrongRings(t *testing.T) {
	for _, r := range wrongRings() {
		expectCmp(t, r, []int{1, 2}, []int{0, 1}, 0)
		expectCmp(t, r, []int{1, 0}, []int{0, 1}, 0)
	}
	expectCmp(t, api.Ring{}, nil, nil, 0)
	expectCmp(t, api.Ring{}, []int{1}, []int{0}, 0)
	expectCmp(t, api.Ring{Names: letters(7)}, slices.Repeat([]int{1}, 7), make([]int, 7), 0)
}

// Of two different monomials one is the greater one, and sorting them gives a
// list in which each is greater than all before it.
func TestF7Total(t *testing.T) {
	for n := 1; n <= 4; n++ {
		for _, r := range rings(n) {
			all := samples(n)
			slices.SortFunc(all, func(a, b []int) int { return mono.Cmp(r, a, b) })
			for i, a := range all {
				for _, b := range all[:i] {
					expectCmp(t, r, a, b, 1)
				}
				expectCmp(t, r, a, slices.Clone(a), 0)
			}
		}
	}
}

func TestF7OneIsTheLeast(t *testing.T) {
	for n := 1; n <= 6; n++ {
		one := make([]int, n)
		for _, r := range rings(n) {
			for _, a := range samples(n) {
				want := 1
				if slices.Equal(a, one) {
					want = 0
				}
				expectCmp(t, r, a, one, want)
			}
		}
	}
}

func TestF7ProductsKeepTheOrder(t *testing.T) {
	for n := 1; n <= 3; n++ {
		all := monomials(n, 0, 1, 3, limit-3)
		for _, r := range rings(n) {
			for _, a := range all {
				for _, b := range all {
					expectKept(t, r, a, b, all)
				}
			}
		}
	}
}

// expectKept multiplies a and b by all.
func expectKept(t *testing.T, r api.Ring, a, b []int, all [][]int) {
	t.Helper()
	want := mono.Cmp(r, a, b)
	for _, c := range all {
		x, ok := mono.Mul(a, c)
		y, okay := mono.Mul(b, c)
		if ok && okay && mono.Cmp(r, x, y) != want {
			t.Errorf("in %v, %v and %v are not in order times %v", r, a, b, c)
		}
	}
}
