package notation

import (
	"slices"

	"primrose/api"
	"primrose/fraction"
	"primrose/mono"
	"primrose/nat"
	"primrose/poly"
)

// What an expression is limited to, beside the limits of api.
const (
	maxPower = 64   // exponents of parentheses
	maxDepth = 50   // parentheses in each other
	maxPairs = 4096 // pairs of terms that a product is made of
)

// leastFull is how many terms a sum may always gather before it is made plain.
const leastFull = 100

// failure is what a panic carries when an error ends the parsing.
type failure api.Errno

// Parse returns the polynomial that s says in plain form; ErrRing if r is not
// valid; or the first error that occurs while s is read (H2).
func Parse(r api.Ring, s string) (l []api.Term, e api.Errno) {
	if e := mono.Check(r); e != api.OK {
		return nil, e
	}
	defer func() {
		reason := recover()
		if reason == nil {
			return
		}
		f, ok := reason.(failure)
		if !ok {
			panic(reason)
		}
		l, e = nil, api.Errno(f)
	}()
	p := parser{ring: r, rest: s}
	l = p.expression()
	p.end()
	return l, api.OK
}

// fail ends the parsing.
func fail(e api.Errno) {
	panic(failure(e))
}

// sure returns what a call returned, if that was no error.
func sure[T any](result T, e api.Errno) T {
	if e != api.OK {
		fail(e)
	}
	return result
}

// parser reads a text from left to right.
type parser struct {
	ring  api.Ring
	rest  string // what has not been read yet
	depth int    // how many parentheses are open
}

// expression reads terms and the signs before them.
func (p *parser) expression() []api.Term {
	var sum []api.Term
	full := leastFull // a longer sum is made plain on the way
	minus := p.accept("-")
	for {
		sum = append(sum, p.signedTerm(minus)...)
		if len(sum) > full {
			// Only when it has doubled: after each term it would take too long, and
			// at the end alone like terms could fill the memory.
			sum = p.plain(sum)
			full = max(leastFull, 2*len(sum))
		}
		minus = p.accept("-")
		if !minus && !p.accept("+") {
			return p.plain(sum)
		}
	}
}

// plain returns the polynomial l in plain form.
func (p *parser) plain(l []api.Term) []api.Term {
	return sure(poly.Norm(p.ring, l))
}

// signedTerm reads a term whose sign has been read.
func (p *parser) signedTerm(minus bool) []api.Term {
	term := p.term()
	if minus {
		return sure(poly.Scale(p.ring, term, fraction.Of(-1)))
	}
	return term
}

// term reads factors and multiplies them.
func (p *parser) term() []api.Term {
	product := p.factor()
	for p.accept("*") {
		product = p.times(product, p.factor())
	}
	return product
}

// times returns the product of plain polynomials.
func (p *parser) times(a, b []api.Term) []api.Term {
	if len(a)*len(b) > maxPairs {
		fail(api.ErrLong)
	}
	return sure(poly.Mul(p.ring, a, b))
}

// factor reads parentheses, a name or a number, with what belongs to it.
func (p *parser) factor() []api.Term {
	if p.accept("(") {
		return p.parentheses()
	}
	if name := p.name(); name != "" {
		return p.variable(name)
	}
	return p.constant()
}

// parentheses reads what follows a "(".
func (p *parser) parentheses() []api.Term {
	if p.depth == maxDepth {
		fail(api.ErrLong)
	}
	p.depth++
	inside := p.expression()
	p.expect(")")
	p.depth--
	n, found := p.exponent(maxPower)
	if !found {
		return inside
	}
	// Beginning with 1, as a sum of too many terms can't be multiplied even by 1.
	power := p.polynomial(fraction.Of(1))
	for range n {
		power = p.times(power, inside)
	}
	return power
}

// variable reads what follows a name.
func (p *parser) variable(name string) []api.Term {
	i := slices.Index(p.ring.Names, name)
	if i < 0 {
		fail(api.ErrName)
	}
	n, found := p.exponent(api.MaxExp)
	if !found {
		n = 1
	}
	e := make([]int, len(p.ring.Names))
	e[i] = n
	return []api.Term{{C: fraction.Of(1), E: e}}
}

// constant reads a natural number, or two with a "/" between them.
func (p *parser) constant() []api.Term {
	num, den := p.natural(), nat.Of(1)
	if p.accept("/") {
		den = p.natural()
	}
	return p.polynomial(sure(fraction.Make(api.Int{Mag: num}, api.Int{Mag: den})))
}

// polynomial returns the plain polynomial c.
func (p *parser) polynomial(c api.Rat) []api.Term {
	return p.plain([]api.Term{{C: c, E: make([]int, len(p.ring.Names))}})
}

// exponent reads an exponent and returns it and true, or 0 and false if there
// is none.
func (p *parser) exponent(greatest int) (int, bool) {
	if !p.accept("^") {
		return 0, false
	}
	n, ok := nat.Small(p.natural())
	if !ok || n > greatest {
		fail(api.ErrLong)
	}
	return n, true
}
