package stair_test

import (
	"cmp"
	"math/big"
	"slices"
	"testing"

	"primrose/api"
)

// words are the chapters' words, done as they stand there, with an error as a panic.
type words struct {
	left int
}

func (c *words) step() {
	if c.left == 0 {
		panic(api.ErrFuel)
	}
	c.left--
}

// list is polynomials, none of them 0, and their leading monomials.
type list struct {
	r     api.Ring
	g     []sum
	leads []key
}

// append appends p, divided by its leading coefficient.
func (l *list) append(p sum) {
	first := lead(l.r, p)
	l.g = append(l.g, raised(p, first, first))
	l.leads = append(l.leads, first)
}

// raised makes the leading term, whose monomial is from, one with the monomial to
// and the coefficient 1.
func raised(s sum, from, to key) sum {
	m, _ := to.over(from)
	return times(s, sum{m: inverse(s[from])})
}

// pair is two indices i < k.
type pair struct{ i, k int }

func (l *list) lcm(p pair) key {
	return lcmOf(l.leads[p.i], l.leads[p.k])
}

func lcmOf(a, b key) key {
	for i := range a {
		a[i] = max(a[i], b[i])
	}
	return a
}

func gcdOf(a, b key) key {
	for i := range a {
		a[i] = min(a[i], b[i])
	}
	return a
}

// next is the pair that is next of those that are not done.
func (l *list) next(done map[pair]int) (pair, bool) {
	best, found := pair{}, false
	for k := range l.g {
		for i := range k {
			p := pair{i, k}
			// Of equal ones the one that is visited first stays.
			if done[p] == 0 && (!found || cmpKeys(l.r, l.lcm(p), l.lcm(best)) < 0) {
				best, found = p, true
			}
		}
	}
	return best, found
}

// spoly is the S-polynomial of two elements.
func (l *list) spoly(p pair) sum {
	both := l.lcm(p)
	f, h := raised(l.g[p.i], l.leads[p.i], both), raised(l.g[p.k], l.leads[p.k], both)
	if isLong(f) || isLong(h) {
		panic(api.ErrLong)
	}
	return minus(f, h)
}

// without is the list without the element k.
func (l *list) without(k int) *list {
	return &list{l.r, slices.Concat(l.g[:k], l.g[k+1:]), slices.Concat(l.leads[:k], l.leads[k+1:])}
}

// rest is the remainder of p when divided by l, term by term.
func (c *words) rest(p sum, l *list) sum {
	rest := sum{}
	for len(p) > 0 {
		k := lead(l.r, p)
		i := slices.IndexFunc(l.leads, func(first key) bool { return isMultiple(k, first) })
		if i < 0 {
			rest.add(k, p[k])
			p = minus(p, sum{k: p[k]})
			continue
		}
		c.step()
		multiple := times(raised(l.g[i], l.leads[i], k), constant(p[k]))
		if isLong(multiple) {
			panic(api.ErrLong)
		}
		p = minus(p, multiple)
	}
	return rest
}

// isMultiple reports whether the monomial b divides a.
func isMultiple(a, b key) bool {
	_, ok := a.over(b)
	return ok
}

// isRemoved reports whether another leading monomial divides that of the element k,
// except an equal one of a later element.
func (l *list) isRemoved(k int) bool {
	for i, e := range l.leads {
		if i != k && isMultiple(l.leads[k], e) && !(e == l.leads[k] && i > k) {
			return true
		}
	}
	return false
}

// leads are the leading monomials of the reduced basis.
func (c *words) leads(r api.Ring, f []sum) []key {
	l, done := &list{r: r}, map[pair]int{}
	for _, p := range f {
		if len(p) > 0 {
			l.append(p)
		}
	}
	for p, ok := l.next(done); ok; p, ok = l.next(done) {
		done[p] = 1
		c.step()
		if gcdOf(l.leads[p.i], l.leads[p.k]) == (key{}) {
			continue
		}
		if rest := c.rest(l.spoly(p), l); len(rest) > 0 {
			l.append(rest)
		}
	}
	kept := &list{r: r}
	for k, p := range l.g {
		if !l.isRemoved(k) {
			kept.append(p)
		}
	}
	for k, p := range kept.g { // which leaves the leading terms, but takes steps
		kept.g[k] = c.rest(p, kept.without(k))
	}
	return kept.leads
}

// allSets are the sets of n variables, each as indices in ascending order.
func allSets(n int) [][]int {
	all := [][]int{nil}
	for i := range n {
		for _, s := range all {
			all = append(all, append(slices.Clone(s), i))
		}
	}
	return all
}

// allBut is the set of n variables without some of them.
func allBut(n int, missing ...int) []int {
	var set []int
	for i := range n {
		if !slices.Contains(missing, i) {
			set = append(set, i)
		}
	}
	return set
}

// isIndependent reports whether each leading monomial contains a variable that is
// not in the set.
func isIndependent(n int, set []int, leads []key) bool {
	for _, e := range leads {
		contains := false
		for i := range n {
			contains = contains || e[i] > 0 && !slices.Contains(set, i)
		}
		if !contains {
			return false
		}
	}
	return true
}

// maximal is the maximal independent set.
func maximal(n int, leads []key) (set []int, ok bool) {
	var best [][]int
	for _, s := range allSets(n) {
		if !isIndependent(n, s, leads) {
			continue
		}
		if len(best) > 0 && len(s) > len(best[0]) {
			best = nil
		}
		if len(best) == 0 || len(s) == len(best[0]) {
			best = append(best, s)
		}
	}
	if len(best) == 0 {
		return nil, false
	}
	for i := range n {
		with := slices.DeleteFunc(slices.Clone(best), func(s []int) bool { return !slices.Contains(s, i) })
		if len(with) > 0 {
			best = with
		}
	}
	if len(best) != 1 {
		panic("not one set is the maximal one")
	}
	return best[0], true
}

// isPower reports whether e is a power of the variable i alone, as 1 is.
func isPower(e key, i int) bool {
	e[i] = 0
	return e == key{}
}

// layer is the monomials with at least an exponent of the last variable, up to where
// the next layer begins. No leading monomial divides those that leads do not divide,
// when that variable is left out.
type layer struct {
	from  int
	leads []key
}

// layersOf are the layers of monomials in n variables, the lowest one first.
func layersOf(n int, leads []key) []layer {
	froms := []int{0}
	for _, e := range leads {
		froms = append(froms, e[n-1])
	}
	slices.Sort(froms)
	var all []layer
	for _, from := range slices.Compact(froms) {
		l := layer{from: from}
		for _, e := range leads {
			if e[n-1] <= from {
				e[n-1] = 0
				l.leads = append(l.leads, e)
			}
		}
		all = append(all, l)
	}
	return all
}

// count is how many monomials in n variables none of leads divides, and whether
// these are finitely many.
func count(n int, leads []key) (*big.Int, bool) {
	if n == 0 {
		return big.NewInt(int64(1 - min(1, len(leads)))), true
	}
	total, layers := new(big.Int), layersOf(n, leads)
	for k, l := range layers {
		of, finite := count(n-1, l.leads)
		switch {
		case !finite, k == len(layers)-1 && of.Sign() > 0:
			return nil, false
		case k < len(layers)-1:
			width := big.NewInt(int64(layers[k+1].from - l.from))
			total.Add(total, of.Mul(of, width))
		}
	}
	return total, true
}

// collect returns the monomials of which there are finitely many.
func collect(n int, leads []key) []key {
	if n == 0 {
		return make([]key, 1-min(1, len(leads)))
	}
	var all []key
	layers := layersOf(n, leads)
	for k := range len(layers) - 1 {
		for _, e := range collect(n-1, layers[k].leads) {
			for e[n-1] = layers[k].from; e[n-1] < layers[k+1].from; e[n-1]++ {
				all = append(all, e)
			}
		}
	}
	return all
}

// below are the monomials that no leading monomial divides.
func below(r api.Ring, leads []key) [][]int {
	n := len(r.Names)
	for i := range n {
		if !slices.ContainsFunc(leads, func(e key) bool { return isPower(e, i) }) {
			panic(api.ErrPoint)
		}
	}
	number, finite := count(n, leads)
	switch {
	case !finite:
		panic("powers of all variables leave infinitely many monomials")
	case number.Cmp(big.NewInt(1000)) > 0:
		panic(api.ErrLong)
	}
	var all [][]int
	for _, e := range collect(n, leads) {
		all = append(all, slices.Clone(e[:n]))
	}
	slices.SortFunc(all, func(a, b []int) int { return compare(r, a, b) })
	return all
}

// compare compares two monomials by the words of chapter 6.
func compare(r api.Ring, a, b []int) int {
	switch r.Order {
	case api.Lex:
		return slices.Compare(a, b)
	case api.Grlex:
		return cmp.Or(cmp.Compare(total(a), total(b)), slices.Compare(a, b))
	case api.Grevlex:
		return compareReversed(a, b)
	}
	return cmp.Or(compareReversed(a[:r.First], b[:r.First]), compareReversed(a[r.First:], b[r.First:]))
}

func compareReversed(a, b []int) int {
	a, b = slices.Clone(a), slices.Clone(b)
	slices.Reverse(a)
	slices.Reverse(b)
	return cmp.Or(cmp.Compare(total(a), total(b)), slices.Compare(b, a))
}

func total(e []int) int {
	n := 0
	for _, x := range e {
		n += x
	}
	return n
}

// power is the variable i to the power of n.
func power(i, n int) sum {
	var k key
	k[i] = n
	return sum{k: rat(1, 1)}
}

// The words themselves, by hand.
func TestReference(t *testing.T) {
	r := lex(2)
	sums := func(text string) []sum { return sumsOf(parsedList(t, r, text)) }
	// The pairs are (0, 1); (0, 2), with a step of its division; and (1, 2), whose
	// leading monomials have no variable in common.
	c := &words{left: 100}
	if l := c.leads(r, sums("2*x*y - 2; 0; y^2 - 1")); !slices.Equal(l, []key{{0, 2}, {1}}) || c.left != 96 {
		t.Errorf("leads: %v, %d", l, c.left)
	}
	if l := allSets(2); len(l) != 4 || len(l[0]) != 0 || !slices.Equal(l[3], []int{0, 1}) {
		t.Errorf("allSets: %v", l)
	}
	xy, xz := key{1, 1}, key{1, 0, 1}
	if isIndependent(3, []int{0, 1}, []key{xy, xz}) || !isIndependent(3, []int{0}, []key{xy, xz}) || isIndependent(3, nil, []key{{}}) {
		t.Error("isIndependent")
	}
	if s, ok := maximal(3, []key{xy}); !ok || !slices.Equal(s, []int{0, 2}) {
		t.Errorf("maximal: %v", s)
	}
	if s, ok := maximal(3, []key{xy, xz}); !ok || !slices.Equal(s, []int{1, 2}) {
		t.Errorf("maximal: %v", s)
	}
	stairs := []key{{3}, {1, 2}, {0, 5}}
	if n, ok := count(2, stairs); !ok || n.Int64() != 9 {
		t.Errorf("count: %v", n)
	}
	if _, ok := count(2, stairs[:2]); ok {
		t.Error("count: of infinitely many")
	}
	if n, ok := count(2, []key{{}}); !ok || n.Sign() != 0 || len(collect(2, []key{{}})) != 0 {
		t.Errorf("count: %v", n)
	}
	want := [][]int{{0, 0}, {0, 1}, {0, 2}, {0, 3}, {0, 4}, {1, 0}, {1, 1}, {2, 0}, {2, 1}}
	if l := below(r, stairs); !slices.EqualFunc(l, want, slices.Equal) {
		t.Errorf("below: %v", l)
	}
}

// The orders of the reference, by the examples of chapter 6.
func TestReferenceOrders(t *testing.T) {
	x, xz, y5, yy := []int{1, 0, 0}, []int{1, 0, 1}, []int{0, 5, 0}, []int{0, 2, 0}
	of := func(order, first int) api.Ring { return api.Ring{Names: letters(3), Order: order, First: first} }
	if compare(of(api.Lex, 0), x, y5) != 1 || compare(of(api.Grlex, 0), x, y5) != -1 || compare(of(api.Grlex, 0), xz, yy) != 1 ||
		compare(of(api.Grevlex, 0), xz, yy) != -1 || compare(of(api.Block, 1), x, y5) != 1 || compare(of(api.Block, 2), x, y5) != -1 ||
		compare(of(api.Block, 2), xz, x) != 1 || compare(of(api.Grevlex, 0), xz, xz) != 0 {
		t.Error("compare")
	}
}
