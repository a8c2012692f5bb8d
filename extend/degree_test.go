package extend_test

import (
	"math/big"
	"slices"
	"testing"

	"primrose/api"
	"primrose/extend"
	"primrose/stair"
)

func TestS3Examples(t *testing.T) {
	r := lex(2)
	for _, c := range []struct {
		f     string
		u     []int
		want  int
		steps int
	}{
		{"x^2 - y", y, 2, 0}, {"x^2 - y", x, 1, 0}, {"x^2 - y", xy, 0, 0}, {"x*y^2 - 3", x, 2, 0}, {"x*y^2 - 3", y, 1, 0},
		// No other variables: 1 is the only monomial.
		{"", xy, 1, 0}, {"0; 0", xy, 1, 0}, {"x", xy, 0, 0}, {"1", xy, 0, 0}, {"x*y - x; x*y - 2*y", xy, 0, 11},
		// All variables are other ones.
		{"x^3; x*y^2; y^5", none, 9, 3}, {"x; y", none, 1, 1}, {"x^2 - 1; y^2 - x", none, 4, 1}, {"1", none, 0, 0}, {"x; x + 2", none, 0, 3},
		// With a polynomial in u alone there are none, also if no power is a leading monomial.
		{"x*y; y^3", y, 0, 1}, {"y - 1", y, 0, 0}, {"x*y; x^2", y, 1, 1}, {"x*y; x^2", x, 0, 1}, {"2", x, 0, 0},
		// Leading monomials that differ in the variables of u alone.
		{"x^2*y^3; x^3*y^2; x^4*y", y, 2, 3}, {"x^2*y^3; x^3*y^2; x^4*y", x, 1, 3}, {"x^3*y; x^2*y^5", y, 2, 1},
	} {
		if steps := expectDegree(t, r, c.f, c.u, c.want); steps != c.steps {
			t.Errorf("S3: %s by %v takes %d steps, not %d", c.f, c.u, steps, c.steps)
		}
	}
}

// Each set of three variables. -1 stands for infinitely many.
func TestS3Sets(t *testing.T) {
	for _, c := range []struct {
		f    string
		want []int // by nothing; x; y; x, y; z; x, z; y, z; all
	}{
		{"", []int{-1, -1, -1, -1, -1, -1, -1, 1}},
		{"x*y; y*z; z*x", []int{-1, 1, 1, 0, 1, 0, 0, 0}},
		{"x^2; y^3; z^4", []int{24, 0, 0, 0, 0, 0, 0, 0}},
		{"x^2*z; y^3*z^2", []int{-1, -1, -1, 1, 6, 0, 0, 0}},
		{"x^3*y^2*z - 1", []int{-1, -1, -1, 1, -1, 2, 3, 0}},
		{"x^2 - y; y^2 - z", []int{-1, 1, 2, 0, 4, 0, 0, 0}},
		{"x*z - y; y*z - x", []int{-1, 2, 2, 0, 1, 0, 0, 0}},
		{"x^2 + y^2 - z^2; x^3 - y*z^2", []int{-1, 6, 6, 0, 6, 0, 0, 0}},
		{"x; 1 - x", []int{0, 0, 0, 0, 0, 0, 0, 0}},
	} {
		sets := [][]int{none, x, y, xy, {2}, {0, 2}, {1, 2}, {0, 1, 2}}
		for _, r := range rings(3) {
			for k, u := range sets {
				if c.want[k] < 0 {
					expectNothing(t, question{"Degree", r, parsedList(t, r, c.f), u}, api.MaxFuel, api.ErrPoint)
					continue
				}
				expectDegree(t, r, c.f, u, c.want[k])
			}
		}
	}
}

// box is the powers of the other variables that leave a product of so many monomials,
// each beside a power of a variable of u if there are any.
func box(n int, u, sides []int, beside int) []sum {
	var f []sum
	for k, i := range allBut(n, u...) {
		p := power(i, sides[k])
		if len(u) > 0 && k > 0 { // of the others the first one has no variables in common
			p = times(p, power(u[k%len(u)], beside+k))
		}
		f = append(f, p)
	}
	return f
}

// 1000 monomials are as many as there may be, one more is too many, and so are far more.
func TestS3Limit(t *testing.T) {
	t.Parallel()
	s := noise(50)
	for _, sides := range [][]int{
		{999}, {1000}, {1001}, {1002}, {2000}, {limit}, {1, 1000}, {1000, 1}, {1, 1001}, {1001, 1}, {25, 40}, {91, 11}, {7, 143}, {2, 501}, {limit, 1}, {limit, limit},
		{10, 10, 10}, {7, 11, 13}, {1, 1000, 1}, {1, 1, 1001}, {limit, limit, limit}, {2, 5, 10, 10}, {1, 7, 11, 13}, {2, 2, 2, 5, 25}, {7, 1, 11, 1, 13}, {5, 2, 5, 2, 5, 2}, {1, 1, 13, 1, 11, 7},
		{limit, limit, limit, limit, limit, limit},
	} {
		number := 1
		for _, n := range sides {
			number = min(2000, number*n)
		}
		for n := len(sides); n <= 6; n++ {
			for _, u := range allSets(n) {
				if len(u) != n-len(sides) {
					continue
				}
				r := rings(n)[s.below(len(rings(n)))]
				q := question{"Degree", r, termsOf(r, s.shuffled(box(n, u, sides, 1))), u}
				a := expectWords(t, q, 100)
				switch {
				case number > 1000:
					expectNothing(t, q, 100, api.ErrLong)
				case a.e != api.OK || a.n != number:
					t.Fatalf("S3: %d in %v by %v, not %v: %d", a.n, r, u, sides, a.e)
				}
			}
		}
	}
}

// A power of each other variable but one is missing: ErrPoint, also if there are too
// many monomials already; a leading monomial in u alone is a power of each.
func TestS3OneMissing(t *testing.T) {
	t.Parallel()
	for _, r := range allRings() {
		n := len(r.Names)
		for _, u := range allSets(n) {
			others := allBut(n, u...)
			for k, i := range others {
				for _, size := range []int{1, 1001} {
					var f []sum
					for _, j := range slices.Delete(slices.Clone(others), k, k+1) {
						f = append(f, power(j, size))
					}
					expectNothing(t, question{"Degree", r, termsOf(r, f), u}, 100, api.ErrPoint)
					for _, j := range u {
						f = append(f, times(power(i, 1), power(j, 2)))
					}
					if len(others) > 1 && size > 1 {
						j := others[(k+1)%len(others)]
						f = append(f, times(power(i, 1), power(j, 1)))
					}
					expectWords(t, question{"Degree", r, termsOf(r, f), u}, 100)
					if len(u) > 0 {
						f = append(f, power(u[0], size))
						q := question{"Degree", r, termsOf(r, f), u}
						if a := expectWords(t, q, 100); a.e != api.OK || a.n != 0 {
							t.Fatalf("S3: %s by %v in %v: %v", printedList(r, q.f), u, r, a)
						}
					}
				}
			}
		}
	}
}

// By no variables they are the monomials below the basis in any order.
func TestS3Below(t *testing.T) {
	t.Parallel()
	s, counts := noise(51), tally{}
	for _, r := range allRings() {
		for range 40 {
			f := s.anyForms(r, s.sampleIdeal(len(r.Names), 2))
			l, _, e := stair.Below(r, f, 300)
			a := question{"Degree", r, f, none}.ask(300)
			if e == api.ErrFuel || a.e == api.ErrFuel {
				continue
			}
			counts.add(answer{e: a.e})
			if a.n != len(l) || a.e != e {
				t.Fatalf("S3: %s in %v: %d, %d, not %d, %d", printedList(r, f), r, a.n, a.e, len(l), e)
			}
		}
	}
	if counts.answered < 200 || counts.points < 200 {
		t.Errorf("only %+v", counts)
	}
}

// With one polynomial and one other variable it is the exponent of that variable, and
// with two polynomials that of their common divisor.
func TestS3OneOther(t *testing.T) {
	t.Parallel()
	s := noise(52)
	for _, r := range allRings() {
		n := len(r.Names)
		for k := range 20 {
			i := s.below(n)
			p, common := s.sample(n, 1+s.below(3), 4, 3), s.sample(n, 2, 3, 2)
			f := []sum{times(common, p)}
			want := degreeIn(f[0], i)
			if k%2 == 0 && len(p) > 0 { // p and p + 1 have no common divisor
				f = append(f, times(common, plus(p, constant(rat(1, 1)))))
				want = degreeIn(common, i)
			}
			q := question{"Degree", r, s.anyForms(r, f), allBut(n, i)}
			a := q.ask(2000)
			switch {
			case want < 0:
				expectNothing(t, q, 2000, api.ErrPoint)
			case a.e != api.ErrFuel && (a.e != api.OK || a.n != want):
				t.Fatalf("S3: %s by %v in %v: %d, not %d: error %d", printedList(r, q.f), q.u, r, a.n, want, a.e)
			}
		}
	}
}

// degreeIn is the greatest exponent of a variable, or -1 of 0.
func degreeIn(p sum, i int) int {
	n := -1
	for e := range p {
		n = max(n, e[i])
	}
	return n
}

// at is a polynomial with numbers for the variables of u, without these.
func at(p sum, n int, u []int, values []*big.Rat) sum {
	s := sum{}
	for e, c := range p {
		c := new(big.Rat).Set(c)
		for k, i := range u {
			for range e[i] {
				c.Mul(c, values[k])
			}
		}
		var left key
		for place, i := range allBut(n, u...) {
			left[place] = e[i]
		}
		s.add(left, c)
	}
	return s
}

// With numbers for the variables of u it is the number of monomials below, but for a
// few numbers.
func TestS3Numbers(t *testing.T) {
	t.Parallel()
	s, counts := noise(53), tally{}
	values := []*big.Rat{rat(97, 13), rat(-89, 17), rat(101, 7), rat(83, 19), rat(-103, 11), rat(79, 23)}
	for n := 2; n <= 6; n++ {
		for _, r := range rings(n) {
			for range 60 {
				f, u := s.sampleIdeal(n, 1), s.set(n)
				if len(u) == n {
					continue
				}
				var numbers []sum
				for _, p := range f {
					numbers = append(numbers, at(p, n, u, values))
				}
				others := lex(n - len(u))
				l, _, e := stair.Below(others, termsOf(others, numbers), 300)
				a := question{"Degree", r, s.anyForms(r, f), u}.ask(300)
				if e == api.ErrFuel || a.e == api.ErrFuel {
					continue
				}
				counts.add(answer{e: a.e})
				if a.n != len(l) || a.e != e {
					t.Fatalf("S3: %s by %v in %v: %d, %d, not %d, %d", printedList(r, termsOf(r, f)), u, r, a.n, a.e, len(l), e)
				}
			}
		}
	}
	if counts.answered < 300 || counts.points < 200 {
		t.Errorf("only %+v", counts)
	}
}

// Many leading monomials: the pairs alone take all of the fuel, but those of the
// monomials in the other variables take none of it.
func TestS3ManyElements(t *testing.T) {
	t.Parallel()
	r := lex(3)
	for _, x := range []struct {
		count int
		u     []int
		n     int
		e     api.Errno
	}{
		{40, []int{2}, 820, api.OK}, {44, []int{2}, 990, api.OK}, {45, []int{2}, 0, api.ErrLong}, {200, []int{2}, 0, api.ErrLong}, {200, none, 0, api.ErrPoint},
		{200, []int{1, 2}, 0, api.OK}, {200, []int{0, 2}, 0, api.OK}, {200, xy, 1, api.OK}, {200, []int{0, 1, 2}, 0, api.OK},
		{500, []int{2}, 0, api.ErrLong},
	} {
		var f [][]api.Term
		for k := range x.count + 1 {
			f = append(f, times(times(power(0, k), power(1, x.count-k)), power(2, 1+k%5)).terms(r))
		}
		n, left, e := extend.Degree(r, f, x.u, x.count*(x.count+1)/2)
		if n != x.n || left != 0 || e != x.e {
			t.Errorf("S3: %v: %d, %d, error %d", x, n, left, e)
		}
	}
}
