package extend_test

import (
	"slices"
	"strings"

	"primrose/api"
)

// words are the chapters' words, done as they stand there, with an error as a panic.
type words struct {
	left   int
	fault  int   // which basis is taken, and so may have an error, counted from 1; or one of the following
	places []int // in which of them each step was taken
}

// What else may have an error.
const (
	inProduct = -1 // that of leading coefficients
	inWider   = -2 // the wider ring, which does not exist
)

func (c *words) step() {
	if c.left == 0 {
		panic(api.ErrFuel)
	}
	c.left--
	c.places = append(c.places, c.fault)
}

// list is polynomials, none of them 0, and their leading monomials.
type list struct {
	r     api.Ring
	g     []sum
	leads []key
}

func listOf(r api.Ring, g []sum) *list {
	l := &list{r: r}
	for _, p := range g {
		if len(p) > 0 {
			l.append(p)
		}
	}
	return l
}

// append appends p, divided by its leading coefficient.
func (l *list) append(p sum) {
	first := lead(l.r, p)
	l.g = append(l.g, raised(p, first, first))
	l.leads = append(l.leads, first)
}

// raised makes the leading term, whose monomial is from, one with the monomial to
// and the coefficient 1.
func raised(s sum, from, to key) sum {
	m, _ := to.over(from)
	return times(s, sum{m: inverse(s[from])})
}

// pair is two indices i < k.
type pair struct{ i, k int }

func (l *list) lcm(p pair) key {
	return lcmOf(l.leads[p.i], l.leads[p.k])
}

func lcmOf(a, b key) key {
	for i := range a {
		a[i] = max(a[i], b[i])
	}
	return a
}

func gcdOf(a, b key) key {
	for i := range a {
		a[i] = min(a[i], b[i])
	}
	return a
}

// next is the pair that is next of those that are not done.
func (l *list) next(done map[pair]int) (pair, bool) {
	best, found := pair{}, false
	for k := range l.g {
		for i := range k {
			p := pair{i, k}
			// Of equal ones the one that is visited first stays.
			if done[p] == 0 && (!found || cmpKeys(l.r, l.lcm(p), l.lcm(best)) < 0) {
				best, found = p, true
			}
		}
	}
	return best, found
}

// spoly is the S-polynomial of two elements.
func (l *list) spoly(p pair) sum {
	both := l.lcm(p)
	f, h := raised(l.g[p.i], l.leads[p.i], both), raised(l.g[p.k], l.leads[p.k], both)
	if isLong(f) || isLong(h) {
		panic(api.ErrLong)
	}
	return minus(f, h)
}

// without is the list without the element k.
func (l *list) without(k int) *list {
	return &list{l.r, slices.Concat(l.g[:k], l.g[k+1:]), slices.Concat(l.leads[:k], l.leads[k+1:])}
}

// rest is the remainder of p when divided by l, term by term.
func (c *words) rest(p sum, l *list) sum {
	rest := sum{}
	for len(p) > 0 {
		k := lead(l.r, p)
		i := slices.IndexFunc(l.leads, func(first key) bool {
			_, ok := k.over(first)
			return ok
		})
		if i < 0 {
			rest.add(k, p[k])
			p = minus(p, sum{k: p[k]})
			continue
		}
		c.step()
		multiple := times(raised(l.g[i], l.leads[i], k), constant(p[k]))
		if isLong(multiple) {
			panic(api.ErrLong)
		}
		p = minus(p, multiple)
	}
	return rest
}

// isRemoved reports whether another leading monomial divides that of the element k,
// except an equal one of a later element.
func (l *list) isRemoved(k int) bool {
	for i := range l.g {
		_, ok := l.leads[k].over(l.leads[i])
		if i != k && ok && !(l.leads[i] == l.leads[k] && i > k) {
			return true
		}
	}
	return false
}

// basis is the reduced basis.
func (c *words) basis(r api.Ring, f []sum) []sum {
	c.fault++
	l, done := listOf(r, f), map[pair]int{}
	for p, ok := l.next(done); ok; p, ok = l.next(done) {
		done[p] = 1
		c.step()
		if gcdOf(l.leads[p.i], l.leads[p.k]) == (key{}) {
			continue
		}
		if rest := c.rest(l.spoly(p), l); len(rest) > 0 {
			l.append(rest)
		}
	}
	kept := &list{r: r}
	for k, p := range l.g {
		if !l.isRemoved(k) {
			kept.append(p)
		}
	}
	for k, p := range kept.g {
		kept.g[k] = c.rest(p, kept.without(k))
	}
	slices.SortFunc(kept.g, func(p, q sum) int { return cmpKeys(r, lead(r, p), lead(r, q)) })
	return kept.g
}

// wider is the wider ring.
func (c *words) wider(r api.Ring) api.Ring {
	if len(r.Names) == 6 {
		c.fault = inWider
		panic(api.ErrLong)
	}
	n := 1
	for slices.Contains(r.Names, strings.Repeat("t", n)) {
		n++
	}
	return api.Ring{Names: append([]string{strings.Repeat("t", n)}, r.Names...), Order: api.Block, First: 1}
}

// widened is a polynomial as one of the wider ring.
func widened(p sum) sum {
	w := sum{}
	for k, c := range p {
		var e key
		copy(e[1:], k[:])
		w[e] = c
	}
	return w
}

// narrowed are the polynomials without the new variable, as ones of the ring.
func narrowed(l []sum) []sum {
	var all []sum
	for _, p := range l {
		n := sum{}
		for k, c := range p {
			if k[0] > 0 {
				n = nil
				break
			}
			var e key
			copy(e[:], k[1:])
			n[e] = c
		}
		if n != nil {
			all = append(all, n)
		}
	}
	return all
}

func (c *words) intersect(r api.Ring, f, h []sum) []sum {
	w := c.wider(r)
	var l []sum
	for _, p := range f {
		l = append(l, times(widened(p), power(0, 1)))
	}
	for _, p := range h {
		l = append(l, times(widened(p), minus(constant(rat(1, 1)), power(0, 1))))
	}
	return c.basis(r, narrowed(c.basis(w, l)))
}

// over is p divided by q, which has to leave nothing.
func over(r api.Ring, p, q sum) sum {
	quotient, last := sum{}, lead(r, q)
	for len(p) > 0 {
		first := lead(r, p)
		m, ok := first.over(last)
		if !ok {
			panic("a division leaves something")
		}
		t := times(sum{m: p[first]}, constant(inverse(q[last])))
		quotient, p = plus(quotient, t), minus(p, times(t, q))
	}
	return quotient
}

func (c *words) divide(r api.Ring, f []sum, p sum) []sum {
	if len(p) == 0 {
		return []sum{constant(rat(1, 1))}
	}
	var l []sum
	for _, q := range c.intersect(r, f, []sum{p}) {
		l = append(l, over(r, q, p))
	}
	return c.basis(r, l)
}
