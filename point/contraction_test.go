package point_test

import (
	"cmp"
	"math/big"
	"slices"
	"strings"
	"testing"

	"primrose/api"
)

// moved is a polynomial whose variable at each of the places is that with the index
// there; -1 is a variable that it does not contain.
func moved(p sum, places []int) sum {
	m := sum{}
	for k, c := range p {
		var e key
		for place, i := range places {
			if i >= 0 {
				e[place] = k[i]
			}
		}
		m[e] = c
	}
	return m
}

// movedBack is moved the other way round.
func movedBack(p sum, places []int) sum {
	m := sum{}
	for k, c := range p {
		var e key
		for place, i := range places {
			if i >= 0 {
				e[i] = k[place]
			}
		}
		m[e] = c
	}
	return m
}

func movedList(f []sum, places []int) []sum {
	all := make([]sum, len(f))
	for i, p := range f {
		all[i] = moved(p, places)
	}
	return all
}

// reordered is the reordered ring, and the index in r of the variable at each of its
// places.
func reordered(r api.Ring, u []int) (api.Ring, []int) {
	n := len(r.Names)
	places := append(allBut(n, u...), u...)
	o := api.Ring{Order: api.Block, First: n - len(u)}
	if len(u) == 0 {
		o.Order, o.First = api.Grevlex, 0
	}
	for _, i := range places {
		o.Names = append(o.Names, r.Names[i])
	}
	return o, places
}

// coefficient is the leading coefficient over the variables behind the first ones: what
// stands beside the greatest monomial in these.
func coefficient(p sum, others int) sum {
	best, at := []int(nil), sum{}
	for k, c := range p {
		var rest key
		copy(rest[others:], k[others:])
		order := 1
		if best != nil {
			order = compareReversed(k[:others], best)
		}
		if order > 0 {
			best, at = slices.Clone(k[:others]), sum{}
		}
		if order >= 0 {
			at[rest] = c
		}
	}
	return at
}

// compareReversed compares two monomials by Grevlex.
func compareReversed(a, b []int) int {
	a, b = slices.Clone(a), slices.Clone(b)
	slices.Reverse(a)
	slices.Reverse(b)
	return cmp.Or(cmp.Compare(total(a), total(b)), slices.Compare(b, a))
}

// product is the product of leading coefficients, from the basis in the reordered ring.
func (c *words) product(r api.Ring, g []sum, others int, places []int) sum {
	h, all := constant(rat(1, 1)), []sum{constant(rat(1, 1))}
	for _, p := range g {
		q := monic(r, movedBack(coefficient(p, others), places))
		if slices.ContainsFunc(all, func(s sum) bool { return isSame(s, q) }) {
			continue
		}
		all = append(all, q)
		h = times(h, q)
		if isLong(h) {
			c.fault = "product"
			panic(api.ErrLong)
		}
	}
	return h
}

// newName is the name of the new variable.
func newName(r api.Ring) string {
	n := 1
	for slices.Contains(r.Names, strings.Repeat("t", n)) {
		n++
	}
	return strings.Repeat("t", n)
}

func (c *words) contract(r api.Ring, f []sum, u []int) []sum {
	o, places := reordered(r, u)
	h := c.product(r, c.basis(o, movedList(f, places)), len(r.Names)-len(u), places)
	w := api.Ring{Names: append([]string{newName(r)}, r.Names...), Order: api.Block, First: 1}
	var l []sum
	for _, p := range f {
		l = append(l, widened(p))
	}
	l = append(l, minus(constant(rat(1, 1)), times(power(0, 1), widened(h))))
	return c.basis(r, narrowed(c.basis(w, l)))
}

func (c *words) degree(r api.Ring, f []sum, u []int) int {
	o, places := reordered(r, u)
	others := len(r.Names) - len(u)
	var l []key
	for _, p := range c.basis(o, movedList(f, places)) {
		var first key
		e := lead(o, p)
		copy(first[:], e[:others])
		l = append(l, first)
	}
	for i := range others {
		if !slices.ContainsFunc(l, func(e key) bool { return isPower(e, i) }) {
			panic("the degree of a radical is infinite")
		}
	}
	number, _ := count(others, l)
	if number.Cmp(big.NewInt(1000)) > 0 {
		c.fault = "degree"
		panic(api.ErrLong)
	}
	return int(number.Int64())
}

// isPower reports whether e is a power of the variable i alone, as 1 is.
func isPower(e key, i int) bool {
	e[i] = 0
	return e == key{}
}

// count is how many monomials in n variables none of leads divides, and whether these
// are finitely many: those with each exponent of the last variable up to the next one
// that a leading monomial has, without that variable.
func count(n int, leads []key) (*big.Int, bool) {
	if n == 0 {
		return big.NewInt(int64(1 - min(1, len(leads)))), true
	}
	froms := []int{0}
	for _, e := range leads {
		froms = append(froms, e[n-1])
	}
	slices.Sort(froms)
	froms = slices.Compact(froms)
	total := new(big.Int)
	for k, from := range froms {
		var without []key
		for _, e := range leads {
			if e[n-1] <= from {
				e[n-1] = 0
				without = append(without, e)
			}
		}
		of, finite := count(n-1, without)
		switch {
		case !finite, k == len(froms)-1 && of.Sign() > 0:
			return nil, false
		case k < len(froms)-1:
			total.Add(total, of.Mul(of, big.NewInt(int64(froms[k+1]-from))))
		}
	}
	return total, true
}

// The contraction's words, by hand.
func TestReferenceContraction(t *testing.T) {
	r := lex(2)
	sums := func(text string) []sum { return sumsOf(parsedList(t, r, text)) }
	told := func(l ...sum) string { return printedList(r, termsOf(r, l)) }
	// The pairs are (0, 1); (0, 2), with a step of its division; and (1, 2), whose
	// leading monomials have no variable in common.
	c := &words{left: 100}
	if g := c.basis(r, sums("2*x*y - 2; 0; y^2 - 1")); told(g...) != "y^2 - 1; x - y" || c.left != 96 || len(c.places) != 4 {
		t.Errorf("basis: %s, %d", told(g...), c.left)
	}
	if h := (&words{}).product(r, sums("x*y + x + y^9; x^2*y + x; x^3; 2*y; x^4*y^2 + 3*x^4"), 1, []int{0, 1}); told(h) != "y^4 + y^3 + 3*y^2 + 3*y" {
		t.Errorf("product: %v", h)
	}
	for _, x := range []struct {
		p    string
		want []string
	}{
		{"2*x*y*z*u - x*y*u^5 + 3*x^2*z + 7*x^2 - z^9", []string{"2*x*y*z*u - x*y*u^5 + 3*x^2*z + 7*x^2 - z^9", "3*z + 7", "3*z + 7", "-1", "-1"}},
		{"x*z + x*u^3 + y^2*u + 2*y^2", []string{"x*z + x*u^3 + y^2*u + 2*y^2", "z + u^3", "u + 2", "u + 2", "1"}},
	} {
		for others, want := range x.want {
			if q := coefficient(sumOf(parsed(t, lex(4), x.p)), others); !isSame(q, sumOf(parsed(t, lex(4), want))) {
				t.Errorf("coefficient of %s by %d: %v", x.p, others, q)
			}
		}
	}
	for _, x := range []struct{ f, u, want string }{{"x*y; x^2", "y", "x"}, {"x*y; x^2", "", "x*y; x^2"}, {"x*y - x; x^2", "y", "x"}, {"x^2 - y; y", "y", "1"}} {
		c := &words{left: 100}
		u := []int{1}[:len(x.u)]
		if g := c.contract(r, sums(x.f), u); told(g...) != x.want || c.bases != 3 {
			t.Errorf("contract: %s, %d", told(g...), c.bases)
		}
	}
	if n := (&words{left: 100}).degree(r, sums("x^2*y^3; x^3*y^2; x^4*y"), []int{1}); n != 2 {
		t.Errorf("degree: %d", n)
	}
	if n := (&words{left: 100}).degree(r, sums("x^3; x*y^2; y^5"), nil); n != 9 {
		t.Errorf("degree: %d", n)
	}
	stairs := []key{{3}, {1, 2}, {0, 5}}
	if n, ok := count(2, stairs); !ok || n.Int64() != 9 {
		t.Errorf("count: %v", n)
	}
	if _, ok := count(2, stairs[:2]); ok {
		t.Error("count: of infinitely many")
	}
}
