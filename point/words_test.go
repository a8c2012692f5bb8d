package point_test

import (
	"math/big"
	"slices"

	"primrose/api"
)

// words are the chapters' words, done as they stand there, with an error as a panic.
type words struct {
	left   int
	bases  int    // how many bases have been taken, or begun
	fault  string // what an error occurs in
	places []int  // in which of the bases each step was taken
	factored
}

// factored is what else the words tell of their way.
type factored struct {
	calls  int   // of Factor
	failed []int // the place of the factor at which each attempt fails
	most   int   // the greatest multiplicity of a factor
}

func (c *words) step() {
	if c.left == 0 {
		panic(api.ErrFuel)
	}
	c.left--
	c.places = append(c.places, c.bases)
}

// list is polynomials, none of them 0, and their leading monomials.
type list struct {
	r     api.Ring
	g     []sum
	leads []key
}

func listOf(r api.Ring, g []sum) *list {
	l := &list{r: r}
	for _, p := range g {
		if len(p) > 0 {
			l.append(p)
		}
	}
	return l
}

// append appends p, divided by its leading coefficient.
func (l *list) append(p sum) {
	first := lead(l.r, p)
	l.g = append(l.g, raised(p, first, first))
	l.leads = append(l.leads, first)
}

// raised makes the leading term, whose monomial is from, one with the monomial to
// and the coefficient 1.
func raised(s sum, from, to key) sum {
	m, _ := to.over(from)
	return times(s, sum{m: inverse(s[from])})
}

// pair is two indices i < k.
type pair struct{ i, k int }

func (l *list) lcm(p pair) key {
	return lcmOf(l.leads[p.i], l.leads[p.k])
}

func lcmOf(a, b key) key {
	for i := range a {
		a[i] = max(a[i], b[i])
	}
	return a
}

func gcdOf(a, b key) key {
	for i := range a {
		a[i] = min(a[i], b[i])
	}
	return a
}

// next is the pair that is next of those that are not done.
func (l *list) next(done map[pair]int) (pair, bool) {
	best, found := pair{}, false
	for k := range l.g {
		for i := range k {
			p := pair{i, k}
			// Of equal ones the one that is visited first stays.
			if done[p] == 0 && (!found || cmpKeys(l.r, l.lcm(p), l.lcm(best)) < 0) {
				best, found = p, true
			}
		}
	}
	return best, found
}

// spoly is the S-polynomial of two elements.
func (l *list) spoly(p pair) sum {
	both := l.lcm(p)
	f, h := raised(l.g[p.i], l.leads[p.i], both), raised(l.g[p.k], l.leads[p.k], both)
	if isLong(f) || isLong(h) {
		panic(api.ErrLong)
	}
	return minus(f, h)
}

// without is the list without the element k.
func (l *list) without(k int) *list {
	return &list{l.r, slices.Concat(l.g[:k], l.g[k+1:]), slices.Concat(l.leads[:k], l.leads[k+1:])}
}

// rest is the remainder of p when divided by l, term by term.
func (c *words) rest(p sum, l *list) sum {
	rest := sum{}
	for len(p) > 0 {
		k := lead(l.r, p)
		i := slices.IndexFunc(l.leads, func(first key) bool {
			_, ok := k.over(first)
			return ok
		})
		if i < 0 {
			rest.add(k, p[k])
			p = minus(p, sum{k: p[k]})
			continue
		}
		c.step()
		multiple := times(raised(l.g[i], l.leads[i], k), constant(p[k]))
		if isLong(multiple) {
			panic(api.ErrLong)
		}
		p = minus(p, multiple)
	}
	return rest
}

// isRemoved reports whether another leading monomial divides that of the element k,
// except an equal one of a later element.
func (l *list) isRemoved(k int) bool {
	for i := range l.g {
		_, ok := l.leads[k].over(l.leads[i])
		if i != k && ok && !(l.leads[i] == l.leads[k] && i > k) {
			return true
		}
	}
	return false
}

// basis is the reduced basis.
func (c *words) basis(r api.Ring, f []sum) []sum {
	c.bases++
	c.fault = "basis"
	l, done := listOf(r, f), map[pair]int{}
	for p, ok := l.next(done); ok; p, ok = l.next(done) {
		done[p] = 1
		c.step()
		if gcdOf(l.leads[p.i], l.leads[p.k]) == (key{}) {
			continue
		}
		if rest := c.rest(l.spoly(p), l); len(rest) > 0 {
			l.append(rest)
		}
	}
	kept := &list{r: r}
	for k, p := range l.g {
		if !l.isRemoved(k) {
			kept.append(p)
		}
	}
	for k, p := range kept.g {
		kept.g[k] = c.rest(p, kept.without(k))
	}
	slices.SortFunc(kept.g, func(p, q sum) int { return cmpKeys(r, lead(r, p), lead(r, q)) })
	return kept.g
}

// widened is a polynomial as one of the wider ring.
func widened(p sum) sum {
	w := sum{}
	for k, c := range p {
		var e key
		copy(e[1:], k[:])
		w[e] = c
	}
	return w
}

// narrowed are the polynomials without the new variable, as ones of the ring.
func narrowed(l []sum) []sum {
	var all []sum
	for _, p := range l {
		if degreeIn(p, 0) == 0 {
			all = append(all, moved(p, []int{1, 2, 3, 4, 5}))
		}
	}
	return all
}

// degreeIn is the greatest exponent of a variable, or -1 of 0.
func degreeIn(p sum, i int) int {
	n := -1
	for e := range p {
		n = max(n, e[i])
	}
	return n
}

// power is the variable i to the power of n.
func power(i, n int) sum {
	var k key
	k[i] = n
	return sum{k: rat(1, 1)}
}

// monic is a polynomial divided by its leading coefficient.
func monic(r api.Ring, p sum) sum {
	return times(p, constant(inverse(p[lead(r, p)])))
}

// allSets are the sets of n variables, each as indices in ascending order.
func allSets(n int) [][]int {
	all := [][]int{nil}
	for i := range n {
		for _, s := range all {
			all = append(all, append(slices.Clone(s), i))
		}
	}
	return all
}

// parts are the sets of n variables that leave others.
func parts(n int) [][]int {
	return slices.DeleteFunc(allSets(n), func(u []int) bool { return len(u) == n })
}

// allBut is the set of n variables without some of them.
func allBut(n int, missing ...int) []int {
	var set []int
	for i := range n {
		if !slices.Contains(missing, i) {
			set = append(set, i)
		}
	}
	return set
}

func total(e []int) int {
	n := 0
	for _, x := range e {
		n += x
	}
	return n
}

// ratPower is an integer other than 0 to a power, which may be below 0.
func ratPower(x, n int) *big.Rat {
	p := rat(1, 1)
	for range max(n, -n) {
		p.Mul(p, rat(int64(x), 1))
	}
	if n < 0 {
		return inverse(p)
	}
	return p
}
