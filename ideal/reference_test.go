package ideal_test

import (
	"slices"
	"strings"
	"testing"

	"primrose/api"
)

// words are the chapters' words, done as they stand there, with an error as a panic.
type words struct {
	left int
	// fault is what the errors of bases and divisions occur in, counted from 1.
	fault int
}

func (c *words) step() {
	if c.left == 0 {
		panic(api.ErrFuel)
	}
	c.left--
}

// list is polynomials, none of them 0, and their leading monomials.
type list struct {
	r     api.Ring
	g     []sum
	leads []key
}

func listOf(r api.Ring, g []sum) *list {
	l := &list{r: r}
	for _, p := range g {
		if len(p) > 0 {
			l.append(p)
		}
	}
	return l
}

// append appends p, divided by its leading coefficient.
func (l *list) append(p sum) {
	first := lead(l.r, p)
	l.g = append(l.g, raised(p, first, first))
	l.leads = append(l.leads, first)
}

// raised makes the leading term, whose monomial is from, one with the monomial to
// and the coefficient 1.
func raised(s sum, from, to key) sum {
	m, _ := to.over(from)
	return times(s, sum{m: inverse(s[from])})
}

// pair is two indices i < k.
type pair struct{ i, k int }

func (l *list) lcm(p pair) key {
	return lcmOf(l.leads[p.i], l.leads[p.k])
}

func lcmOf(a, b key) key {
	for i := range a {
		a[i] = max(a[i], b[i])
	}
	return a
}

func gcdOf(a, b key) key {
	for i := range a {
		a[i] = min(a[i], b[i])
	}
	return a
}

// next is the pair that is next of those that are not done.
func (l *list) next(done map[pair]int) (pair, bool) {
	best, found := pair{}, false
	for k := range l.g {
		for i := range k {
			p := pair{i, k}
			// Of equal ones the one that is visited first stays.
			if done[p] == 0 && (!found || cmpKeys(l.r, l.lcm(p), l.lcm(best)) < 0) {
				best, found = p, true
			}
		}
	}
	return best, found
}

// spoly is the S-polynomial of two elements.
func (l *list) spoly(p pair) sum {
	both := l.lcm(p)
	f, h := raised(l.g[p.i], l.leads[p.i], both), raised(l.g[p.k], l.leads[p.k], both)
	if isLong(f) || isLong(h) {
		panic(api.ErrLong)
	}
	return minus(f, h)
}

// without is the list without the element k.
func (l *list) without(k int) *list {
	return &list{l.r, slices.Concat(l.g[:k], l.g[k+1:]), slices.Concat(l.leads[:k], l.leads[k+1:])}
}

// rest is the remainder of p when divided by l, term by term.
func (c *words) rest(p sum, l *list) sum {
	rest := sum{}
	for len(p) > 0 {
		k := lead(l.r, p)
		i := slices.IndexFunc(l.leads, func(first key) bool {
			_, ok := k.over(first)
			return ok
		})
		if i < 0 {
			rest.add(k, p[k])
			p = minus(p, sum{k: p[k]})
			continue
		}
		c.step()
		multiple := times(raised(l.g[i], l.leads[i], k), constant(p[k]))
		if isLong(multiple) {
			panic(api.ErrLong)
		}
		p = minus(p, multiple)
	}
	return rest
}

// isRemoved reports whether another leading monomial divides that of the element k,
// except an equal one of a later element.
func (l *list) isRemoved(k int) bool {
	for i := range l.g {
		_, ok := l.leads[k].over(l.leads[i])
		if i != k && ok && !(l.leads[i] == l.leads[k] && i > k) {
			return true
		}
	}
	return false
}

// division is one whose error is that of a call.
func (c *words) division(r api.Ring, p sum, g []sum) sum {
	c.fault++
	return c.rest(p, listOf(r, g))
}

// basis is the reduced basis.
func (c *words) basis(r api.Ring, f []sum) []sum {
	c.fault++
	l, done := listOf(r, f), map[pair]int{}
	for p, ok := l.next(done); ok; p, ok = l.next(done) {
		done[p] = 1
		c.step()
		if gcdOf(l.leads[p.i], l.leads[p.k]) == (key{}) {
			continue
		}
		if rest := c.rest(l.spoly(p), l); len(rest) > 0 {
			l.append(rest)
		}
	}
	kept := &list{r: r}
	for k, p := range l.g {
		if !l.isRemoved(k) {
			kept.append(p)
		}
	}
	for k, p := range kept.g {
		kept.g[k] = c.rest(p, kept.without(k))
	}
	slices.SortFunc(kept.g, func(p, q sum) int { return cmpKeys(r, lead(r, p), lead(r, q)) })
	return kept.g
}

// wider is the wider ring.
func wider(r api.Ring) api.Ring {
	if len(r.Names) == 6 {
		panic(api.ErrLong)
	}
	n := 1
	for slices.Contains(r.Names, strings.Repeat("t", n)) {
		n++
	}
	return api.Ring{Names: append([]string{strings.Repeat("t", n)}, r.Names...), Order: api.Block, First: 1}
}

// widened is a polynomial as one of the wider ring.
func widened(p sum) sum {
	w := sum{}
	for k, c := range p {
		var e key
		copy(e[1:], k[:])
		w[e] = c
	}
	return w
}

// narrowed are the polynomials without the new variable, as ones of the ring.
func narrowed(l []sum) []sum {
	var all []sum
	for _, p := range l {
		n := sum{}
		for k, c := range p {
			if k[0] > 0 {
				n = nil
				break
			}
			var e key
			copy(e[:], k[1:])
			n[e] = c
		}
		if n != nil {
			all = append(all, n)
		}
	}
	return all
}

func (c *words) intersect(r api.Ring, f, h []sum) []sum {
	w := wider(r)
	var l []sum
	for _, p := range f {
		l = append(l, times(widened(p), power(0, 1)))
	}
	for _, p := range h {
		l = append(l, times(widened(p), minus(constant(rat(1, 1)), power(0, 1))))
	}
	return c.basis(r, narrowed(c.basis(w, l)))
}

// over is p divided by q, which has to leave nothing.
func over(r api.Ring, p, q sum) sum {
	quotient, last := sum{}, lead(r, q)
	for len(p) > 0 {
		first := lead(r, p)
		m, ok := first.over(last)
		if !ok {
			panic("a division leaves something")
		}
		t := times(sum{m: p[first]}, constant(inverse(q[last])))
		quotient, p = plus(quotient, t), minus(p, times(t, q))
	}
	return quotient
}

func (c *words) divide(r api.Ring, f []sum, p sum) []sum {
	if len(p) == 0 {
		return []sum{constant(rat(1, 1))}
	}
	var l []sum
	for _, q := range c.intersect(r, f, []sum{p}) {
		l = append(l, over(r, q, p))
	}
	return c.basis(r, l)
}

func (c *words) contains(r api.Ring, f, h []sum) bool {
	g := c.basis(r, f)
	for _, p := range h {
		if len(c.division(r, p, g)) > 0 {
			return false
		}
	}
	return true
}

func (c *words) product(r api.Ring, f, h []sum) []sum {
	var l []sum
	for _, p := range f {
		for _, q := range h {
			if len(p) > 0 && len(q) > 0 && (isLongProduct(p, q)) {
				panic(api.ErrLong)
			}
			l = append(l, times(p, q))
		}
	}
	return c.basis(r, l)
}

// isLongProduct reports whether a term of p times one of q has an exponent that is
// too great, whether it cancels or not.
func isLongProduct(p, q sum) bool {
	for k := range p {
		for l := range q {
			if isLong(sum{k.times(l): rat(1, 1)}) {
				return true
			}
		}
	}
	return false
}

func (c *words) eliminate(r api.Ring, f []sum, k int) []sum {
	if k > 0 {
		other := api.Ring{Names: r.Names, Order: api.Block, First: k}
		if k == len(r.Names) {
			other = api.Ring{Names: r.Names, Order: api.Grevlex}
		}
		f = slices.DeleteFunc(c.basis(other, f), func(p sum) bool { return containsFirst(p, k) })
	}
	return c.basis(r, f)
}

// containsFirst reports whether p contains one of the first k variables.
func containsFirst(p sum, k int) bool {
	for e := range p {
		for _, n := range e[:k] {
			if n > 0 {
				return true
			}
		}
	}
	return false
}

func (c *words) quotient(r api.Ring, f, h []sum) []sum {
	g := []sum{constant(rat(1, 1))}
	for _, p := range h {
		g = c.intersect(r, g, c.divide(r, f, p))
	}
	return g
}

func (c *words) saturate(r api.Ring, f []sum, p sum) (g []sum, s int) {
	w := wider(r)
	var l []sum
	for _, q := range f {
		l = append(l, widened(q))
	}
	l = append(l, minus(constant(rat(1, 1)), times(power(0, 1), widened(p))))
	g = c.basis(r, narrowed(c.basis(w, l)))
	for f = c.basis(r, f); !slices.EqualFunc(f, g, isSame); s++ {
		f = c.divide(r, f, p)
	}
	return g, s
}

// power is the variable i to the power of n.
func power(i, n int) sum {
	var k key
	k[i] = n
	return sum{k: rat(1, 1)}
}

// The words themselves, by hand.
func TestReference(t *testing.T) {
	r := lex(2)
	sums := func(text string) []sum { return sumsOf(parsedList(t, r, text)) }
	told := func(l []sum) string { return printedList(r, termsOf(r, l)) }
	c := &words{left: 100}
	// The pairs are (0, 1); (0, 2), with a step of its division; and (1, 2), whose
	// leading monomials have no variable in common.
	if g := c.basis(r, sums("2*x*y - 2; 0; y^2 - 1")); told(g) != "y^2 - 1; x - y" || c.left != 96 {
		t.Errorf("basis: %s, %d", told(g), c.left)
	}
	// t*x and t*y - y have the pair (0, 1), of which x*y remains; (0, 2); and (1, 2),
	// with a step of its division.
	c = &words{left: 100}
	if g := c.intersect(r, sums("x"), sums("y")); told(g) != "x*y" || c.left != 96 || c.fault != 2 {
		t.Errorf("intersect: %s, %d", told(g), c.left)
	}
	// The same with x instead of y, of which only x remains: the pair (0, 1), of which
	// x remains; (0, 2); and (1, 2), with a step of its division.
	c = &words{left: 100}
	if g := c.divide(r, sums("x"), sums("x")[0]); told(g) != "1" || c.left != 96 || c.fault != 3 {
		t.Errorf("divide: %s, %d", told(g), c.left)
	}
	if q := over(r, sums("x^2 - y^2")[0], sums("2*x + 2*y")[0]); told([]sum{q}) != "1/2*x - 1/2*y" {
		t.Errorf("over: %v", q)
	}
	// The basis takes no step, and the divisions take two, one and none.
	c = &words{left: 100}
	if c.contains(r, sums("x"), sums("x^2 + x; x*y; y; x")) || c.left != 97 || c.fault != 4 {
		t.Errorf("contains: %d, %d", c.left, c.fault)
	}
}
