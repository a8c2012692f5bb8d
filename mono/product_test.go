package mono_test

import (
	"math"
	"slices"
	"testing"

	"primrose/mono"
)

// products are the calls that make a monomial of two.
func products() []func(a, b []int) ([]int, bool) {
	return []func(a, b []int) ([]int, bool){mono.Mul, mono.Div, mono.Lcm, mono.Gcd}
}

// exponents are valid, with the limits and their halves.
func exponents() []int {
	return []int{0, 1, 2, 3, 100, limit/2 - 1, limit / 2, limit/2 + 1, limit - 2, limit - 1, limit}
}

// expectProduct holds an answer against want, or if that is nil, against the
// empty list and false.
func expectProduct(t *testing.T, name string, call func(a, b []int) ([]int, bool), a, b, want []int) {
	t.Helper()
	got, ok := call(a, b)
	if ok != (want != nil) || !slices.Equal(got, want) {
		t.Errorf("%s(%v, %v) is %v, %t, not %v", name, a, b, got, ok, want)
	}
}

// valid returns e if its exponents are valid, and nil otherwise.
func valid(e ...int) []int {
	for _, x := range e {
		if x < 0 || x > limit {
			return nil
		}
	}
	return e
}

func TestF5MulDiv(t *testing.T) {
	for _, x := range exponents() {
		for _, y := range exponents() {
			expectProduct(t, "Mul", mono.Mul, []int{x}, []int{y}, valid(x+y))
			expectProduct(t, "Div", mono.Div, []int{x}, []int{y}, valid(x-y))
			for _, z := range exponents() {
				expectProduct(t, "Mul", mono.Mul, []int{x, 0, z}, []int{y, z, 1}, valid(x+y, z, z+1))
				expectProduct(t, "Mul", mono.Mul, []int{z, 5, x}, []int{1, 6, y}, valid(z+1, 11, x+y))
				expectProduct(t, "Div", mono.Div, []int{x, z, z}, []int{y, 0, 1}, valid(x-y, z, z-1))
				expectProduct(t, "Div", mono.Div, []int{z, 8, x}, []int{1, 6, y}, valid(z-1, 2, x-y))
			}
		}
	}
}

func TestF5AtTheLimits(t *testing.T) {
	for _, x := range []struct{ a, b, product, quotient []int }{
		{[]int{2, 1}, []int{1, 1}, []int{3, 2}, []int{1, 0}},
		{[]int{1}, []int{2}, []int{3}, nil},
		{[]int{limit - 1, 4}, []int{1, 4}, []int{limit, 8}, []int{limit - 2, 0}},
		{[]int{limit, 4}, []int{1, 4}, nil, []int{limit - 1, 0}},
		{[]int{4, limit}, []int{4, limit}, nil, []int{0, 0}},
		{[]int{limit, 0}, []int{0, limit}, []int{limit, limit}, nil},
		{[]int{4, 0}, []int{0, 1}, []int{4, 1}, nil},
		{[]int{0, 4}, []int{1, 0}, []int{1, 4}, nil},
		{[]int{limit / 2, 0}, []int{limit / 2, 0}, []int{limit, 0}, []int{0, 0}},
		{[]int{limit/2 + 1, 0}, []int{limit / 2, 0}, nil, []int{1, 0}},
		{[]int{1, 2, 3, 4, 5, 6, 7, 8}, []int{1, 1, 1, 1, 1, 1, 1, 1}, []int{2, 3, 4, 5, 6, 7, 8, 9}, []int{0, 1, 2, 3, 4, 5, 6, 7}},
		{nil, nil, []int{}, []int{}},
		{[]int{}, nil, []int{}, []int{}},
	} {
		expectProduct(t, "Mul", mono.Mul, x.a, x.b, x.product)
		expectProduct(t, "Mul", mono.Mul, x.b, x.a, x.product)
		expectProduct(t, "Div", mono.Div, x.a, x.b, x.quotient)
	}
}

func TestF6LcmGcd(t *testing.T) {
	for _, x := range exponents() {
		for _, y := range exponents() {
			expectProduct(t, "Lcm", mono.Lcm, []int{x}, []int{y}, []int{max(x, y)})
			expectProduct(t, "Gcd", mono.Gcd, []int{x}, []int{y}, []int{min(x, y)})
			expectProduct(t, "Lcm", mono.Lcm, []int{x, 3, y}, []int{y, 4, x}, []int{max(x, y), 4, max(x, y)})
			expectProduct(t, "Gcd", mono.Gcd, []int{x, 3, y}, []int{y, 4, x}, []int{min(x, y), 3, min(x, y)})
		}
	}
	expectProduct(t, "Lcm", mono.Lcm, nil, []int{}, []int{})
	expectProduct(t, "Gcd", mono.Gcd, nil, []int{}, []int{})
	expectProduct(t, "Lcm", mono.Lcm, []int{1, 2, 3, 4, 5, 6, 7, 8}, []int{8, 7, 6, 5, 4, 3, 2, 1}, []int{8, 7, 6, 5, 5, 6, 7, 8})
	expectProduct(t, "Gcd", mono.Gcd, []int{1, 2, 3, 4, 5, 6, 7, 8}, []int{8, 7, 6, 5, 4, 3, 2, 1}, []int{1, 2, 3, 4, 4, 3, 2, 1})
}

func expectNone(t *testing.T, a, b []int) {
	t.Helper()
	for i, name := range []string{"Mul", "Div", "Lcm", "Gcd"} {
		expectProduct(t, name, products()[i], a, b, nil)
		expectProduct(t, name, products()[i], b, a, nil)
	}
}

// No operation is taken on exponents that are not valid, not even where what it
// gives, or what is left of it after a wrap-round, would be valid.
func TestF5F6WrongExponents(t *testing.T) {
	for n := 1; n <= 8; n++ {
		for i := range n {
			for _, x := range wrongExponents() {
				wrong := slices.Repeat([]int{1}, n)
				wrong[i] = x
				for _, y := range []int{0, 1, limit, x, -x, x - 1, 1 - x, x + 1} {
					other := slices.Repeat([]int{1}, n)
					other[i] = y
					expectNone(t, wrong, other)
				}
			}
		}
	}
	expectNone(t, []int{math.MinInt}, []int{math.MinInt})
	expectNone(t, []int{math.MinInt}, []int{math.MaxInt})
	expectNone(t, []int{-1, 2}, []int{3, 1})
}

func TestF5F6WrongLengths(t *testing.T) {
	for n := range 9 {
		for m := range n {
			expectNone(t, make([]int, n), make([]int, m))
			expectNone(t, slices.Repeat([]int{2}, n), slices.Repeat([]int{2}, m))
		}
	}
	expectNone(t, nil, []int{0})
	expectNone(t, []int{-1}, []int{0, -1})
}

// A quotient is what Div says it is, and the product of two monomials is that
// of their Lcm and their Gcd; beyond the limit neither is there.
func TestF7Products(t *testing.T) {
	for n := range 4 {
		all := monomials(n, 0, 1, 2, limit-1, limit)
		for _, a := range all {
			for _, b := range all {
				expectLaws(t, a, b)
			}
		}
	}
}

func expectLaws(t *testing.T, a, b []int) {
	t.Helper()
	product, ok := mono.Mul(a, b)
	lcm, isLcm := mono.Lcm(a, b)
	gcd, isGcd := mono.Gcd(a, b)
	same, okay := mono.Mul(lcm, gcd)
	if !isLcm || !isGcd || ok != okay || !slices.Equal(product, same) {
		t.Errorf("the product of %v and %v is %v, that of their Lcm and Gcd %v", a, b, product, same)
	}
	if quotient, _ := mono.Div(product, b); ok && !slices.Equal(quotient, a) {
		t.Errorf("the product of %v and %v, divided by the latter, is %v", a, b, quotient)
	}
	if quotient, isWhole := mono.Div(a, b); isWhole {
		back, _ := mono.Mul(quotient, b)
		if !slices.Equal(back, a) || !slices.Equal(lcm, a) || !slices.Equal(gcd, b) {
			t.Errorf("%v divided by %v is %v", a, b, quotient)
		}
	}
}
