package poly_test

import (
	"math/big"
	"slices"
	"testing"

	"primrose/api"
	"primrose/fraction"
	"primrose/poly"
)

// power is 1, multiplied so many times by s.
func (s sum) power(n int) sum {
	result := sum{key{}: big.NewRat(1, 1)}
	for range n {
		result = result.times(s)
	}
	return result
}

// subst replaces the variable i by q.
func (s sum) subst(i int, q sum) sum {
	all := sum{}
	for k, c := range s {
		rest := k
		rest[i] = 0
		all = all.plus(sum{rest: c}.times(q.power(k[i])), big.NewRat(1, 1))
	}
	return all
}

func TestG3Mul(t *testing.T) {
	for _, r := range allRings() {
		for _, p := range samples(len(r.Names)) {
			for _, q := range samples(len(r.Names)) {
				got, e := poly.Mul(r, p, q)
				expect(t, r, got, e, sumOf(p).times(sumOf(q)), "Mul", p, q)
			}
		}
	}
}

func TestG3LongLists(t *testing.T) {
	s := noise(1)
	for _, r := range rings(3) {
		p, q := s.list(3, 60, 6), s.list(3, 35, 5)
		want := sumOf(p).times(sumOf(q))
		got, e := poly.Mul(r, p, q)
		expect(t, r, got, e, want, "Mul")
		got, e = poly.Mul(r, q, p)
		expect(t, r, got, e, want, "Mul")
	}
}

func TestG3Cancelling(t *testing.T) {
	for _, r := range rings(2) {
		plus, minus := []api.Term{of(1, 1, 0), of(1, 0, 1)}, []api.Term{of(1, 1, 0), of(-1, 0, 1)}
		got, e := poly.Mul(r, plus, minus)
		expectTerms(t, got, e, []api.Term{of(1, 2, 0), of(-1, 0, 2)}, "x + y times x - y")
	}
}

// term makes a term of one variable of n.
func term(n, i, exponent int) api.Term {
	e := make([]int, n)
	e[i] = exponent
	return of(1, e...)
}

// The exponents of each variable add up to the limit, or to one more.
func TestG3Limit(t *testing.T) {
	for _, r := range allRings() {
		n := len(r.Names)
		one := of(1, make([]int, n)...)
		for i := range n {
			for _, m := range []int{0, 1, 2, limit / 2, limit - 1, limit} {
				p, q := []api.Term{term(n, i, m)}, []api.Term{term(n, i, limit-m)}
				got, e := poly.Mul(r, p, q)
				expectTerms(t, got, e, []api.Term{term(n, i, limit)}, "at the limit")
				if m > 0 {
					q[0].E[i]++
					got, e = poly.Mul(r, p, q)
					expectError(t, got, e, api.ErrLong, "beyond the limit")
					got, e = poly.Mul(r, append(q, one), append(p, one))
					expectError(t, got, e, api.ErrLong, "one term beyond the limit")
				}
				other := term(n, (i+1)%n, limit)
				got, e = poly.Mul(r, p, []api.Term{other})
				if n > 1 {
					other.E[i] = m
					expectTerms(t, got, e, []api.Term{other}, "other variables")
				}
			}
		}
	}
}

// What is 0 in the plain polynomials has no exponents, but what only the product
// loses has.
func TestG3LimitOfPlain(t *testing.T) {
	r := rings(2)[0]
	far := []api.Term{of(3, limit, 0), of(-3, limit, 0), of(2, 0, 1), of(0, limit, limit), {C: rat(1, 0), E: []int{5, limit}}}
	got, e := poly.Mul(r, far, []api.Term{of(1, limit, 2)})
	expectTerms(t, got, e, []api.Term{of(2, limit, 3)}, "terms that cancel")
	got, e = poly.Mul(r, []api.Term{of(1, limit, 2)}, far)
	expectTerms(t, got, e, []api.Term{of(2, limit, 3)}, "terms that cancel")
	for _, zero := range [][]api.Term{nil, far[:2], far[3:]} {
		got, e = poly.Mul(r, zero, []api.Term{of(1, limit, limit)})
		expectTerms(t, got, e, nil, "0 times a great exponent")
		got, e = poly.Mul(r, []api.Term{of(1, limit, limit)}, zero)
		expectTerms(t, got, e, nil, "a great exponent times 0")
	}
	p := []api.Term{of(1, limit, 0), of(1, 0, limit)}
	q := []api.Term{of(1, 1, 0), of(-1, 0, 1)}
	got, e = poly.Mul(r, p, q)
	expectError(t, got, e, api.ErrLong, "sums")
	got, e = poly.Mul(r, []api.Term{of(1, limit, 0), of(1, 0, 0)}, []api.Term{of(1, 0, limit), of(1, 0, 0)})
	expectTerms(t, got, e, []api.Term{of(1, limit, limit), of(1, limit, 0), of(1, 0, limit), of(1, 0, 0)}, "sums at the limit")
}

func TestG8Subst(t *testing.T) {
	for _, r := range allRings() {
		n := len(r.Names)
		for _, p := range samples(n)[6:12] {
			for _, by := range few(n) {
				for i := range n {
					got, e := poly.Subst(r, p, i, by)
					expect(t, r, got, e, sumOf(p).subst(i, sumOf(by)), "Subst", p, i, by)
				}
			}
		}
	}
}

func TestG8Samples(t *testing.T) {
	for _, r := range rings(2) {
		for _, p := range samples(2) {
			for _, by := range samples(2)[:12] {
				got, e := poly.Subst(r, p, 1, by)
				expect(t, r, got, e, sumOf(p).subst(1, sumOf(by)), "Subst", p, by)
			}
		}
	}
}

func TestG8Examples(t *testing.T) {
	for _, r := range rings(2) {
		got, e := poly.Subst(r, []api.Term{of(1, 2, 0)}, 0, []api.Term{of(1, 0, 1), of(1, 0, 0)})
		expectTerms(t, got, e, []api.Term{of(1, 0, 2), of(2, 0, 1), of(1, 0, 0)}, "y + 1 in x^2")
		got, e = poly.Subst(r, []api.Term{of(1, 3, 0), of(1, 0, 0)}, 0, []api.Term{of(1, 1, 0), of(1, 0, 0)})
		expectTerms(t, got, e, []api.Term{of(1, 3, 0), of(3, 2, 0), of(3, 1, 0), of(2, 0, 0)}, "x + 1 in x^3 + 1")
		got, e = poly.Subst(r, []api.Term{of(1, 2, 0), of(-1, 1, 1), of(7, 0, 0)}, 0, []api.Term{of(1, 0, 1)})
		expectTerms(t, got, e, []api.Term{of(7, 0, 0)}, "y in x^2 - x*y + 7")
		got, e = poly.Subst(r, []api.Term{of(1, 1, 2), of(3, 0, 4)}, 1, []api.Term{of(1, 2, 0), of(-1, 2, 0), of(0, 1, 1)})
		expectTerms(t, got, e, nil, "0 in x*y^2 + 3*y^4")
		got, e = poly.Subst(r, []api.Term{of(5, 2, 0), of(1, 1, 1), of(4, 0, 0)}, 1, nil)
		expectTerms(t, got, e, []api.Term{of(5, 2, 0), of(4, 0, 0)}, "0 in 5*x^2 + x*y + 4")
	}
}

// The exponents of the term and of the powers add up to the limit, or to more.
func TestG8Limit(t *testing.T) {
	y, plusOne := []api.Term{of(1, 0, 1)}, []api.Term{of(1, 0, 1), of(1, 0, 0)}
	for _, x := range []struct {
		p, by, want []api.Term // none if it is an error
	}{
		{[]api.Term{of(3, limit, 0)}, y, []api.Term{of(3, 0, limit)}},
		{[]api.Term{of(3, limit, 1)}, y, nil},
		{[]api.Term{of(3, limit, 1)}, plusOne, nil},
		{[]api.Term{of(3, limit-1, 1)}, y, []api.Term{of(3, 0, limit)}},
		{[]api.Term{of(3, limit, 0)}, []api.Term{of(1, 1, 0)}, []api.Term{of(3, limit, 0)}},
		{[]api.Term{of(3, limit, limit)}, []api.Term{of(-1, 1, 0)}, []api.Term{of(3, limit, limit)}},
		{[]api.Term{of(3, limit, limit)}, []api.Term{of(-1, 1, 1)}, nil},
		{[]api.Term{of(3, limit/2, 0)}, []api.Term{of(1, 2, 1)}, []api.Term{of(3, limit, limit/2)}},
		{[]api.Term{of(3, limit/2+1, 0)}, []api.Term{of(1, 2, 1)}, nil},
		{[]api.Term{of(3, limit/2+1, 0)}, []api.Term{of(1, 1, 2), of(1, 0, 0)}, nil},
		{[]api.Term{of(3, limit, 0)}, []api.Term{of(1, limit, limit), of(1, 0, 0)}, nil},
		{[]api.Term{of(3, 1, limit-1)}, plusOne, []api.Term{of(3, 0, limit), of(3, 0, limit-1)}},
		{[]api.Term{of(3, 2, limit-1)}, plusOne, nil},
		{[]api.Term{of(3, 2, limit-2)}, plusOne, []api.Term{of(3, 0, limit), of(6, 0, limit-1), of(3, 0, limit-2)}},
		{[]api.Term{of(3, 0, limit)}, []api.Term{of(1, limit, limit)}, []api.Term{of(3, 0, limit)}},
		{[]api.Term{of(3, 1, 0)}, []api.Term{of(1, limit, limit)}, []api.Term{of(3, limit, limit)}},
		{[]api.Term{of(3, 2, 0)}, []api.Term{of(1, limit, 0)}, nil},
		{[]api.Term{of(1, 0, 0), of(3, 2, 0)}, []api.Term{of(1, 0, limit)}, nil},
		{[]api.Term{of(1, 0, 3), of(3, 1, 1)}, []api.Term{of(1, 0, limit)}, nil},
		{[]api.Term{of(1, 0, 3), of(3, 1, 0)}, []api.Term{of(1, 0, limit)}, []api.Term{of(3, 0, limit), of(1, 0, 3)}},
		{[]api.Term{of(1, 1, limit), of(-1, 2, limit-1)}, y, nil},
	} {
		for _, r := range rings(2)[:3] {
			got, e := poly.Subst(r, x.p, 0, x.by)
			if x.want == nil {
				expectError(t, got, e, api.ErrLong, "Subst")
			} else {
				expectTerms(t, got, e, x.want, "Subst")
			}
		}
	}
}

// What is 0 in the plain polynomials has no exponents.
func TestG8LimitOfPlain(t *testing.T) {
	r := rings(2)[2]
	far := []api.Term{of(3, limit, limit), of(-3, limit, limit), of(2, 1, 1), of(0, limit, limit)}
	got, e := poly.Subst(r, far, 0, []api.Term{of(1, 0, limit-1)})
	expectTerms(t, got, e, []api.Term{of(2, 0, limit)}, "terms that cancel")
	got, e = poly.Subst(r, []api.Term{of(1, 2, 0)}, 0, far)
	expectTerms(t, got, e, []api.Term{of(4, 2, 2)}, "terms that cancel in what is substituted")
	for _, zero := range [][]api.Term{nil, far[:2], far[3:]} {
		got, e = poly.Subst(r, []api.Term{of(1, limit, limit), of(9, 0, limit)}, 0, zero)
		expectTerms(t, got, e, []api.Term{of(9, 0, limit)}, "0")
		got, e = poly.Subst(r, zero, 1, []api.Term{of(1, limit, limit)})
		expectTerms(t, got, e, nil, "in 0")
	}
}

// Each variable is another one, and stands at another place.
func TestG8EachVariable(t *testing.T) {
	for _, r := range allRings() {
		n := len(r.Names)
		for i := range n {
			for j := range n {
				p, want := term(n, i, 3), term(n, j, 6)
				got, e := poly.Subst(r, []api.Term{p}, i, []api.Term{term(n, j, 2)})
				expectTerms(t, got, e, []api.Term{want}, "a square")
				if j != i {
					p.E[j] = limit - 5
					got, e = poly.Subst(r, []api.Term{p}, i, []api.Term{term(n, j, 2)})
					expectError(t, got, e, api.ErrLong, "a square")
					got, e = poly.Subst(r, []api.Term{p}, j, []api.Term{of(-1, make([]int, n)...)})
					expectTerms(t, got, e, []api.Term{{C: fraction.Of(-1), E: term(n, i, 3).E}}, "-1")
				}
			}
		}
	}
}

// Great powers of a number, also where each has a long numerator and denominator.
func TestG8GreatPowers(t *testing.T) {
	r := rings(1)[0]
	for _, c := range []api.Rat{rat(1, 1), rat(-1, 1), rat(2, 1), rat(1, 2), rat(-4, 6), rat(0, 1)} {
		for _, n := range []int{limit, limit - 1, 1000, 777} {
			num, den := toBig(c).Num(), toBig(c).Denom()
			exponent := big.NewInt(int64(n))
			want := sum{}
			want.add(key{}, new(big.Rat).SetFrac(new(big.Int).Exp(num, exponent, nil), new(big.Int).Exp(den, exponent, nil)))
			got, e := poly.Subst(r, []api.Term{of(1, n)}, 0, []api.Term{{C: c, E: []int{0}}})
			expect(t, r, got, e, want, "Subst", c, n)
		}
	}
}

// Long polynomials end soon.
func TestG8LongLists(t *testing.T) {
	var p, want []api.Term
	for n := range 5000 {
		p = append(p, of(n%9+1, n, 0))
		want = append(want, of((n%9+1)*(1-n%2*2), 0, n))
	}
	slices.Reverse(want)
	got, e := poly.Subst(rings(2)[1], p, 0, []api.Term{of(-1, 0, 1)})
	expectTerms(t, got, e, want, "-y in a polynomial of 5000 terms")
	linear := []api.Term{of(1, 1, 0, 0), of(2, 0, 1, 0), of(-1, 0, 0, 1), of(3, 0, 0, 0)}
	power, e := poly.Subst(rings(3)[2], []api.Term{of(1, 12, 0, 0)}, 0, linear)
	expect(t, rings(3)[2], power, e, sumOf(linear).power(12), "a power of", linear)
}
