package extend_test

import (
	"cmp"
	"math/big"
	"slices"
	"testing"

	"primrose/api"
)

// reordered is the reordered ring, and the index in r of the variable at each of its
// places.
func reordered(r api.Ring, u []int) (api.Ring, []int) {
	n := len(r.Names)
	places := append(allBut(n, u...), u...)
	o := api.Ring{Order: api.Block, First: n - len(u)}
	if len(u) == 0 || len(u) == n {
		o.Order, o.First = api.Grevlex, 0
	}
	for _, i := range places {
		o.Names = append(o.Names, r.Names[i])
	}
	return o, places
}

// moved is a polynomial in the reordered ring.
func moved(p sum, places []int) sum {
	m := sum{}
	for k, c := range p {
		var e key
		for place, i := range places {
			e[place] = k[i]
		}
		m[e] = c
	}
	return m
}

func movedList(f []sum, places []int) []sum {
	all := make([]sum, len(f))
	for i, p := range f {
		all[i] = moved(p, places)
	}
	return all
}

// movedBack is a polynomial of the reordered ring in the other one.
func movedBack(p sum, places []int) sum {
	m := sum{}
	for k, c := range p {
		var e key
		for place, i := range places {
			e[i] = k[place]
		}
		m[e] = c
	}
	return m
}

// coefficient is the leading coefficient over the variables behind the first ones: what
// stands beside the greatest monomial in these.
func coefficient(p sum, others int) sum {
	best, at := []int(nil), sum{}
	for k, c := range p {
		var rest key
		copy(rest[others:], k[others:])
		order := 1
		if best != nil {
			order = compareReversed(k[:others], best)
		}
		if order > 0 {
			best, at = slices.Clone(k[:others]), sum{}
		}
		if order >= 0 {
			at[rest] = c
		}
	}
	return at
}

// product is h, from the basis in the reordered ring.
func (c *words) product(r api.Ring, g []sum, others int, places []int) sum {
	h, all := constant(rat(1, 1)), []sum{constant(rat(1, 1))}
	for _, p := range g {
		q := monic(r, movedBack(coefficient(p, others), places))
		if slices.ContainsFunc(all, func(s sum) bool { return isSame(s, q) }) {
			continue
		}
		all = append(all, q)
		h = times(h, q)
		if isLong(h) {
			c.fault = inProduct
			panic(api.ErrLong)
		}
	}
	return h
}

// monic is a polynomial divided by its leading coefficient.
func monic(r api.Ring, p sum) sum {
	return times(p, constant(inverse(p[lead(r, p)])))
}

func (c *words) contract(r api.Ring, f []sum, u []int) (g []sum, h sum) {
	o, places := reordered(r, u)
	h = c.product(r, c.basis(o, movedList(f, places)), len(r.Names)-len(u), places)
	w := c.wider(r)
	var l []sum
	for _, p := range f {
		l = append(l, widened(p))
	}
	l = append(l, minus(constant(rat(1, 1)), times(power(0, 1), widened(h))))
	return c.basis(r, narrowed(c.basis(w, l))), h
}

func (c *words) halve(r api.Ring, f []sum) (u []int, h sum, g []sum, s int) {
	b := c.basis(r, f)
	u, ok := maximal(len(r.Names), leadsOf(r, b))
	if !ok {
		panic(api.ErrWhole)
	}
	g, h = c.contract(r, b, u)
	for ; !slices.EqualFunc(b, g, isSame); s++ {
		b = c.divide(r, b, h)
	}
	return u, h, g, s
}

func (c *words) degree(r api.Ring, f []sum, u []int) int {
	o, places := reordered(r, u)
	others := len(r.Names) - len(u)
	var l []key
	for _, e := range leadsOf(o, c.basis(o, movedList(f, places))) {
		var first key
		copy(first[:], e[:others])
		l = append(l, first)
	}
	for i := range others {
		if !slices.ContainsFunc(l, func(e key) bool { return isPower(e, i) }) {
			panic(api.ErrPoint)
		}
	}
	number, finite := count(others, l)
	switch {
	case !finite:
		panic("powers of all variables leave infinitely many monomials")
	case number.Cmp(big.NewInt(1000)) > 0:
		panic(api.ErrLong)
	}
	return int(number.Int64())
}

func leadsOf(r api.Ring, g []sum) []key {
	l := make([]key, len(g))
	for k, p := range g {
		l[k] = lead(r, p)
	}
	return l
}

// allSets are the sets of n variables, each as indices in ascending order.
func allSets(n int) [][]int {
	all := [][]int{nil}
	for i := range n {
		for _, s := range all {
			all = append(all, append(slices.Clone(s), i))
		}
	}
	return all
}

// allBut is the set of n variables without some of them.
func allBut(n int, missing ...int) []int {
	var set []int
	for i := range n {
		if !slices.Contains(missing, i) {
			set = append(set, i)
		}
	}
	return set
}

// isIndependent reports whether each leading monomial contains a variable that is
// not in the set.
func isIndependent(n int, set []int, leads []key) bool {
	for _, e := range leads {
		contains := false
		for i := range n {
			contains = contains || e[i] > 0 && !slices.Contains(set, i)
		}
		if !contains {
			return false
		}
	}
	return true
}

// maximal is the maximal independent set.
func maximal(n int, leads []key) (set []int, ok bool) {
	var best [][]int
	for _, s := range allSets(n) {
		if !isIndependent(n, s, leads) {
			continue
		}
		if len(best) > 0 && len(s) > len(best[0]) {
			best = nil
		}
		if len(best) == 0 || len(s) == len(best[0]) {
			best = append(best, s)
		}
	}
	if len(best) == 0 {
		return nil, false
	}
	for i := range n {
		with := slices.DeleteFunc(slices.Clone(best), func(s []int) bool { return !slices.Contains(s, i) })
		if len(with) > 0 {
			best = with
		}
	}
	if len(best) != 1 {
		panic("not one set is the maximal one")
	}
	return best[0], true
}

// isPower reports whether e is a power of the variable i alone, as 1 is.
func isPower(e key, i int) bool {
	e[i] = 0
	return e == key{}
}

// count is how many monomials in n variables none of leads divides, and whether these
// are finitely many: those with each exponent of the last variable up to the next one
// that a leading monomial has, without that variable.
func count(n int, leads []key) (*big.Int, bool) {
	if n == 0 {
		return big.NewInt(int64(1 - min(1, len(leads)))), true
	}
	froms := []int{0}
	for _, e := range leads {
		froms = append(froms, e[n-1])
	}
	slices.Sort(froms)
	froms = slices.Compact(froms)
	total := new(big.Int)
	for k, from := range froms {
		var without []key
		for _, e := range leads {
			if e[n-1] <= from {
				e[n-1] = 0
				without = append(without, e)
			}
		}
		of, finite := count(n-1, without)
		switch {
		case !finite, k == len(froms)-1 && of.Sign() > 0:
			return nil, false
		case k < len(froms)-1:
			total.Add(total, of.Mul(of, big.NewInt(int64(froms[k+1]-from))))
		}
	}
	return total, true
}

// compareReversed compares two monomials by Grevlex.
func compareReversed(a, b []int) int {
	a, b = slices.Clone(a), slices.Clone(b)
	slices.Reverse(a)
	slices.Reverse(b)
	return cmp.Or(cmp.Compare(total(a), total(b)), slices.Compare(b, a))
}

func total(e []int) int {
	n := 0
	for _, x := range e {
		n += x
	}
	return n
}

// power is the variable i to the power of n.
func power(i, n int) sum {
	var k key
	k[i] = n
	return sum{k: rat(1, 1)}
}

// The words themselves, by hand.
func TestReference(t *testing.T) {
	r := lex(2)
	sums := func(text string) []sum { return sumsOf(parsedList(t, r, text)) }
	told := func(l ...sum) string { return printedList(r, termsOf(r, l)) }
	// The pairs are (0, 1); (0, 2), with a step of its division; and (1, 2), whose
	// leading monomials have no variable in common.
	c := &words{left: 100}
	if g := c.basis(r, sums("2*x*y - 2; 0; y^2 - 1")); told(g...) != "y^2 - 1; x - y" || c.left != 96 || len(c.places) != 4 {
		t.Errorf("basis: %s, %d", told(g...), c.left)
	}
	// t*x and t*y - y have the pair (0, 1), of which x*y remains; (0, 2); and (1, 2),
	// with a step of its division.
	c = &words{left: 100}
	if g := c.intersect(r, sums("x"), sums("y")); told(g...) != "x*y" || c.left != 96 || c.fault != 2 {
		t.Errorf("intersect: %s, %d", told(g...), c.left)
	}
	// The same with x instead of y, of which only x remains: the pair (0, 1), of which
	// x remains; (0, 2); and (1, 2), with a step of its division.
	c = &words{left: 100}
	if g := c.divide(r, sums("x"), sums("x")[0]); told(g...) != "1" || c.left != 96 || c.fault != 3 {
		t.Errorf("divide: %s, %d", told(g...), c.left)
	}
	if q := over(r, sums("x^2 - y^2")[0], sums("2*x + 2*y")[0]); told(q) != "1/2*x - 1/2*y" {
		t.Errorf("over: %v", q)
	}
	if h := (&words{}).product(r, sums("x*y + x + y^9; x^2*y + x; x^3; 2*y; x^4*y^2 + 3*x^4"), 1, []int{0, 1}); told(h) != "y^4 + y^3 + 3*y^2 + 3*y" {
		t.Errorf("product: %v", h)
	}
}

// The reordered ring, and leading coefficients over the last variables, by hand.
func TestReferenceReordered(t *testing.T) {
	r := api.Ring{Names: letters(4), Order: api.Lex}
	for _, x := range []struct {
		u      []int
		names  string
		order  int
		first  int
		places []int
	}{
		{nil, "xyzu", api.Grevlex, 0, []int{0, 1, 2, 3}}, {[]int{0, 1, 2, 3}, "xyzu", api.Grevlex, 0, []int{0, 1, 2, 3}},
		{[]int{0, 2}, "yuxz", api.Block, 2, []int{1, 3, 0, 2}}, {[]int{1}, "xzuy", api.Block, 3, []int{0, 2, 3, 1}},
	} {
		o, places := reordered(r, x.u)
		if names := o.Names[0] + o.Names[1] + o.Names[2] + o.Names[3]; names != x.names || o.Order != x.order || o.First != x.first || !slices.Equal(places, x.places) {
			t.Errorf("%v: %v, %v", x.u, o, places)
		}
		p := sumOf(parsed(t, r, "x*y^2*z^3*u^4 - 1/2*z"))
		m := moved(p, places)
		if _, ok := m[key{places[0] + 1, places[1] + 1, places[2] + 1, places[3] + 1}]; !ok || !isSame(movedBack(m, places), p) {
			t.Errorf("%v: %v", x.u, m)
		}
	}
	for _, x := range []struct {
		p    string
		want []string
	}{
		{"2*x*y*z*u - x*y*u^5 + 3*x^2*z + 7*x^2 - z^9", []string{"2*x*y*z*u - x*y*u^5 + 3*x^2*z + 7*x^2 - z^9", "3*z + 7", "3*z + 7", "-1", "-1"}},
		{"x*z + x*u^3 + y^2*u + 2*y^2", []string{"x*z + x*u^3 + y^2*u + 2*y^2", "z + u^3", "u + 2", "u + 2", "1"}},
	} {
		for others, want := range x.want {
			if q := coefficient(sumOf(parsed(t, r, x.p)), others); !isSame(q, sumOf(parsed(t, r, want))) {
				t.Errorf("coefficient of %s by %d: %v", x.p, others, q)
			}
		}
	}
}

// Independent sets and numbers of monomials, by hand.
func TestReferenceMonomials(t *testing.T) {
	xy, xz := key{1, 1}, key{1, 0, 1}
	if s, ok := maximal(3, []key{xy}); !ok || !slices.Equal(s, []int{0, 2}) {
		t.Errorf("maximal: %v", s)
	}
	if s, ok := maximal(3, []key{xy, xz}); !ok || !slices.Equal(s, []int{1, 2}) {
		t.Errorf("maximal: %v", s)
	}
	if s, ok := maximal(2, []key{{}}); ok {
		t.Errorf("maximal: %v", s)
	}
	stairs := []key{{3}, {1, 2}, {0, 5}}
	if n, ok := count(2, stairs); !ok || n.Int64() != 9 {
		t.Errorf("count: %v", n)
	}
	if _, ok := count(2, stairs[:2]); ok {
		t.Error("count: of infinitely many")
	}
	if n, ok := count(2, []key{{}}); !ok || n.Sign() != 0 {
		t.Errorf("count: %v", n)
	}
	if n, ok := count(0, nil); !ok || n.Int64() != 1 {
		t.Errorf("count: %v", n)
	}
	if compareReversed([]int{1, 0, 1}, []int{0, 2, 0}) != -1 || compareReversed([]int{0, 5, 0}, []int{1, 0, 0}) != 1 || compareReversed(nil, nil) != 0 {
		t.Error("compareReversed")
	}
}
