package poly_test

import (
	"math"
	"slices"
	"testing"

	"primrose/api"
	"primrose/fraction"
	"primrose/poly"
)

// wrongRings are rings that are not valid; but for the first two and the last
// one, terms with two exponents fit.
func wrongRings() []api.Ring {
	return []api.Ring{
		{},
		{Names: []string{"x"}, Order: api.Block, First: 1},
		{Names: []string{"x", "x"}},
		{Names: []string{"x", ""}},
		{Names: []string{"1", "y"}},
		{Names: []string{"x", "y"}, Order: 4},
		{Names: []string{"x", "y"}, Order: -1},
		{Names: []string{"x", "y"}, Order: api.Block},
		{Names: []string{"x", "y"}, Order: api.Block, First: 2},
		{Names: []string{"x", "y"}, Order: api.Lex, First: 1},
		{Names: []string{"a", "b", "c", "d", "e", "f", "g"}},
	}
}

// wrongExponents are lists that are no monomials of n variables.
func wrongExponents(n int) [][]int {
	all := [][]int{nil, {}, make([]int, n-1), make([]int, n+1), slices.Repeat([]int{1}, n+1)}
	for i := range n {
		for _, x := range []int{-1, limit + 1, math.MinInt, math.MaxInt, 1 << 32, -limit} {
			e := make([]int, n)
			e[i] = x
			all = append(all, e)
		}
	}
	return all
}

// wrongIndices are no variables of a ring with n of them.
func wrongIndices(n int) []int {
	return []int{-1, n, n + 1, math.MinInt, math.MaxInt, 1 << 32, 1<<32 + 1}
}

// arguments are those of all calls.
type arguments struct {
	r    api.Ring
	p, q []api.Term
	i    int
	at   []api.Rat
}

// call is one of the package's calls: it tells whether all but the error is the
// zero value.
type call struct {
	name                string
	two, indexed, asked bool // whether q, i, and at are arguments
	run                 func(a arguments) (none bool, e api.Errno)
}

// calls are all calls but Right.
func calls() []call {
	list := func(l []api.Term, e api.Errno) (bool, api.Errno) { return len(l) == 0, e }
	return []call{
		{"Norm", false, false, false, func(a arguments) (bool, api.Errno) { return list(poly.Norm(a.r, a.p)) }},
		{"Add", true, false, false, func(a arguments) (bool, api.Errno) { return list(poly.Add(a.r, a.p, a.q)) }},
		{"Sub", true, false, false, func(a arguments) (bool, api.Errno) { return list(poly.Sub(a.r, a.p, a.q)) }},
		{"Mul", true, false, false, func(a arguments) (bool, api.Errno) { return list(poly.Mul(a.r, a.p, a.q)) }},
		{"Scale", false, false, false, func(a arguments) (bool, api.Errno) { return list(poly.Scale(a.r, a.p, rat(2, 3))) }},
		{"Scale by 0", false, false, false, func(a arguments) (bool, api.Errno) { return list(poly.Scale(a.r, a.p, api.Rat{})) }},
		{"Monic", false, false, false, func(a arguments) (bool, api.Errno) { return list(poly.Monic(a.r, a.p)) }},
		{"Lead", false, false, false, func(a arguments) (bool, api.Errno) {
			l, e := poly.Lead(a.r, a.p)
			return isNoRat(l.C) && len(l.E) == 0, e
		}},
		{"Degree", false, true, false, func(a arguments) (bool, api.Errno) {
			n, e := poly.Degree(a.r, a.p, a.i)
			return n == 0, e
		}},
		{"Eval", false, false, true, func(a arguments) (bool, api.Errno) {
			x, e := poly.Eval(a.r, a.p, a.at)
			return isNoRat(x), e
		}},
		{"Deriv", false, true, false, func(a arguments) (bool, api.Errno) { return list(poly.Deriv(a.r, a.p, a.i)) }},
		{"Subst", true, true, false, func(a arguments) (bool, api.Errno) { return list(poly.Subst(a.r, a.p, a.i, a.q)) }},
	}
}

// good are arguments of which none is wrong, in n variables.
func good(n int) arguments {
	s := noise(n)
	p := append(s.list(n, 4, 2), of(3, slices.Repeat([]int{3}, n)...))
	return arguments{r: rings(n)[0], p: p, q: s.list(n, 3, 3), at: slices.Repeat([]api.Rat{rat(1, 2)}, n)}
}

func expectCall(t *testing.T, c call, a arguments, want api.Errno) {
	t.Helper()
	if none, e := c.run(a); e != want || want != api.OK && !none {
		t.Errorf("%s of %v: error %d, not %d; no answer: %t", c.name, a, e, want, none)
	}
}

// expectOrder holds each call against the first error that applies to it.
func expectOrder(t *testing.T, a arguments, ring, p, q, i, at bool) {
	t.Helper()
	for _, c := range calls() {
		want := api.OK
		switch {
		case ring:
			want = api.ErrRing
		case p || q && c.two:
			want = api.ErrPoly
		case i && c.indexed || at && c.asked:
			want = api.ErrArg
		}
		expectCall(t, c, a, want)
	}
}

func TestCheckNothingWrong(t *testing.T) {
	for n := 1; n <= 6; n++ {
		for _, r := range rings(n) {
			a := good(n)
			a.r = r
			for i := range n {
				a.i = i
				expectOrder(t, a, false, false, false, false, false)
			}
		}
	}
}

func TestCheckRings(t *testing.T) {
	for _, r := range wrongRings() {
		a := good(2)
		a.r = r
		expectOrder(t, a, true, false, false, false, false)
		a.p, a.q = nil, nil
		expectOrder(t, a, true, false, false, false, false)
		a.at, a.i = nil, 9
		expectOrder(t, a, true, false, false, true, true)
	}
}

// A wrong monomial is found at each place, beside any coefficient.
func TestCheckPolynomials(t *testing.T) {
	for n := 1; n <= 3; n++ {
		for _, e := range wrongExponents(n) {
			for _, x := range []api.Rat{rat(1, 1), rat(0, 1), rat(1, 0), {}} {
				for k := range 5 {
					a := good(n)
					a.p[k] = api.Term{C: x, E: e}
					expectOrder(t, a, false, true, false, false, false)
				}
				a := good(n)
				a.q[1] = api.Term{C: x, E: e}
				expectOrder(t, a, false, false, true, false, false)
				a.q = []api.Term{{C: x, E: e}, {C: fraction.Neg(x), E: e}}
				expectOrder(t, a, false, false, true, false, false)
				a.p = nil
				for _, c := range calls() {
					if c.two {
						expectCall(t, c, a, api.ErrPoly)
					}
				}
			}
		}
	}
}

func TestCheckArguments(t *testing.T) {
	for n := 1; n <= 6; n++ {
		for _, i := range wrongIndices(n) {
			a := good(n)
			a.i = i
			expectOrder(t, a, false, false, false, true, false)
		}
		for length := range 9 {
			if length != n {
				a := good(n)
				a.at = slices.Repeat([]api.Rat{rat(1, 2)}, length)
				expectOrder(t, a, false, false, false, false, true)
			}
		}
	}
	for _, zero := range [][]api.Term{nil, {of(0, 1, 1)}, {of(1, 1, 1), of(-1, 1, 1)}} {
		for _, i := range wrongIndices(2) {
			d, e := poly.Degree(rings(2)[0], zero, i)
			l, f := poly.Deriv(rings(2)[0], zero, i)
			m, g := poly.Subst(rings(2)[0], zero, i, zero)
			if d != 0 || e != api.ErrArg || len(l) != 0 || f != api.ErrArg || len(m) != 0 || g != api.ErrArg {
				t.Errorf("variable %d of 0: %d %d %d", i, e, f, g)
			}
		}
		if x, e := poly.Eval(rings(2)[0], zero, nil); e != api.ErrArg || !isNoRat(x) {
			t.Errorf("Eval of 0 at nothing: %v, error %d", x, e)
		}
	}
}

// Two or three arguments are wrong at once: the ring comes first, then the
// polynomials, then the rest.
func TestCheckOrder(t *testing.T) {
	for wrong := range 32 {
		ring, p, q, i, at := wrong&1 > 0, wrong&2 > 0, wrong&4 > 0, wrong&8 > 0, wrong&16 > 0
		a := good(2)
		if ring {
			a.r.Order = 7
		}
		if p {
			a.p[2].E = []int{1}
		}
		if q {
			a.q[0].E = []int{0, limit + 1}
		}
		if i {
			a.i = 2
		}
		if at {
			a.at = a.at[:1]
		}
		expectOrder(t, a, ring, p, q, i, at)
	}
}

// What the other errors come before: ErrZero and ErrLong.
func TestCheckLast(t *testing.T) {
	r, far := rings(2)[0], []api.Term{of(1, limit, 1)}
	for _, x := range []struct {
		r     api.Ring
		p, by []api.Term
		i     int
		want  api.Errno
	}{
		{r, far, far, 0, api.ErrLong},
		{r, far, far, 2, api.ErrArg},
		{r, far, []api.Term{of(1, 3)}, 2, api.ErrPoly},
		{r, append([]api.Term{of(0, -1, 0)}, far...), far, 0, api.ErrPoly},
		{api.Ring{}, far, far, 2, api.ErrRing},
	} {
		l, e := poly.Subst(x.r, x.p, x.i, x.by)
		expectError(t, l, e, x.want, "Subst")
		if x.want != api.ErrArg {
			l, e = poly.Mul(x.r, x.p, x.by)
			expectError(t, l, e, x.want, "Mul")
		}
	}
	if _, e := poly.Lead(api.Ring{}, nil); e != api.ErrRing {
		t.Errorf("Lead of 0 in no ring: error %d", e)
	}
	if _, e := poly.Lead(r, []api.Term{of(0, 1)}); e != api.ErrPoly {
		t.Errorf("Lead of 0 times no monomial: error %d", e)
	}
}
