package basis_test

import (
	"slices"
	"testing"

	"primrose/api"
)

// answer is what a call answers.
type answer struct {
	g    []sum // of Reduced
	is   bool  // of Is
	left int
	e    api.Errno
}

// reckoning is the chapter's algorithm under way, done as its words say, with an
// error as a panic.
type reckoning struct {
	r     api.Ring
	g     []sum
	leads []key // of g
	left  int
}

// reckon runs do on the elements of f that are not 0, each times what scale says.
func reckon(r api.Ring, f []sum, fuel int, scale func(sum) sum, do func(c *reckoning, a *answer)) (a answer) {
	defer func() {
		if e, ok := recover().(api.Errno); ok {
			a = answer{e: e}
		}
	}()
	c := &reckoning{r: r, left: fuel}
	for _, p := range f {
		if len(p) > 0 {
			c.append(scale(p))
		}
	}
	do(c, &a)
	a.left = c.left
	return a
}

func (c *reckoning) append(p sum) {
	c.g = append(c.g, p)
	c.leads = append(c.leads, lead(c.r, p))
}

// monic divides by the leading coefficient.
func monic(r api.Ring, p sum) sum {
	return raised(p, lead(r, p), lead(r, p))
}

func (c *reckoning) step() {
	if c.left == 0 {
		panic(api.ErrFuel)
	}
	c.left--
}

// pair is two indices i < k.
type pair struct{ i, k int }

// lcm is the Lcm of the leading monomials of a pair.
func (c *reckoning) lcm(p pair) key {
	return lcmOf(c.leads[p.i], c.leads[p.k])
}

func lcmOf(a, b key) key {
	for i := range a {
		a[i] = max(a[i], b[i])
	}
	return a
}

// haveCommon reports whether two monomials have a variable in common.
func haveCommon(a, b key) bool {
	for i := range a {
		if a[i] > 0 && b[i] > 0 {
			return true
		}
	}
	return false
}

// next is the pair that is next of those that are not done.
func (c *reckoning) next(done map[pair]bool) (pair, bool) {
	best, found := pair{}, false
	for k := range c.g {
		for i := range k {
			p := pair{i, k}
			// Of equal ones the one that is visited first stays.
			if !done[p] && (!found || cmpKeys(c.r, c.lcm(p), c.lcm(best)) < 0) {
				best, found = p, true
			}
		}
	}
	return best, found
}

// spoly is the S-polynomial of two elements.
func (c *reckoning) spoly(p pair) sum {
	both := c.lcm(p)
	f, h := raised(c.g[p.i], c.leads[p.i], both), raised(c.g[p.k], c.leads[p.k], both)
	if isLong(f) || isLong(h) {
		panic(api.ErrLong)
	}
	return minus(f, h)
}

// rest is the remainder of p when divided by l, term by term.
func (c *reckoning) rest(p sum, l []sum) sum {
	var leads []key
	for _, f := range l {
		leads = append(leads, lead(c.r, f))
	}
	rest := sum{}
	for len(p) > 0 {
		k := lead(c.r, p)
		i := slices.IndexFunc(leads, func(first key) bool {
			_, ok := k.over(first)
			return ok
		})
		if i < 0 {
			rest.add(k, p[k])
			p = minus(p, sum{k: p[k]})
			continue
		}
		c.step()
		multiple := times(raised(l[i], leads[i], k), constant(p[k]))
		if isLong(multiple) {
			panic(api.ErrLong)
		}
		p = minus(p, multiple)
	}
	return rest
}

// without is g without the element k.
func (c *reckoning) without(k int) []sum {
	return slices.Concat(c.g[:k], c.g[k+1:])
}

// isRemoved reports whether another leading monomial divides that of the element k,
// except an equal one of a later element.
func (c *reckoning) isRemoved(k int) bool {
	for i := range c.g {
		_, ok := c.leads[k].over(c.leads[i])
		if i != k && ok && !(c.leads[i] == c.leads[k] && i > k) {
			return true
		}
	}
	return false
}

// reduced is what Reduced answers for the polynomials f.
func reduced(r api.Ring, f []sum, fuel int) answer {
	return reckon(r, f, fuel, func(p sum) sum { return monic(r, p) }, func(c *reckoning, a *answer) {
		done := map[pair]bool{}
		for p, ok := c.next(done); ok; p, ok = c.next(done) {
			done[p] = true
			c.step()
			if !haveCommon(c.leads[p.i], c.leads[p.k]) {
				continue
			}
			if rest := c.rest(c.spoly(p), c.g); len(rest) > 0 {
				c.append(monic(r, rest))
			}
		}
		var kept []sum
		for k := range c.g {
			if !c.isRemoved(k) {
				kept = append(kept, c.g[k])
			}
		}
		c.g = kept
		for k := range c.g {
			c.g[k] = c.rest(c.g[k], c.without(k))
		}
		slices.SortFunc(c.g, func(p, q sum) int { return cmpKeys(r, lead(r, p), lead(r, q)) })
		a.g = c.g
	})
}

// isBasis is what Is answers for the polynomials f.
func isBasis(r api.Ring, f []sum, fuel int) answer {
	return reckon(r, f, fuel, func(p sum) sum { return p }, func(c *reckoning, a *answer) {
		for k := range c.g {
			for i := range k {
				c.step()
				if len(c.rest(c.spoly(pair{i, k}), c.g)) > 0 {
					return
				}
			}
		}
		a.is = true
	})
}

// raised makes the leading term, whose monomial is from, one with the monomial to
// and the coefficient 1.
func raised(s sum, from, to key) sum {
	m, _ := to.over(from)
	return times(s, sum{m: inverse(s[from])})
}

// The reference itself, by hand.
func TestReference(t *testing.T) {
	r := lex(2)
	sums := func(text string) []sum { return sumsOf(parsedList(t, r, text)) }
	// The pairs are (0, 1); (0, 2), with a step of its division; and (1, 2), whose
	// leading monomials have no variable in common.
	f := sums("2*x*y - 2; 0; y^2 - 1")
	for fuel, want := range []api.Errno{api.ErrFuel, api.ErrFuel, api.ErrFuel, api.ErrFuel, api.OK, api.OK} {
		a := reduced(r, f, fuel)
		if a.e != want || want == api.OK && (a.left != fuel-4 || printedList(r, termsOf(r, a.g)) != "y^2 - 1; x - y") {
			t.Errorf("reduced with %d: %v", fuel, a)
		}
	}
	// A step of the first pair, none of its division.
	for fuel, want := range []answer{{e: api.ErrFuel}, {}, {left: 1}} {
		if a := isBasis(r, sums("2*x^2 + 2*y; x*y + 1"), fuel); a.is != want.is || a.left != want.left || a.e != want.e {
			t.Errorf("isBasis with %d: %v", fuel, a)
		}
	}
	// A step of the pair, two of its division: y - x by both.
	for fuel, want := range []answer{{e: api.ErrFuel}, {e: api.ErrFuel}, {e: api.ErrFuel}, {is: true}, {is: true, left: 1}} {
		if a := isBasis(r, sums("x + 1; 0; 3*y + 3"), fuel); a.is != want.is || a.left != want.left || a.e != want.e {
			t.Errorf("isBasis with %d: %v", fuel, a)
		}
	}
	if a := reduced(r, sums("x^2 + y^40000; x*y^40000 + 1"), 1); a.e != api.ErrLong || a.left != 0 {
		t.Errorf("an exponent beyond the limit: %v", a)
	}
}
