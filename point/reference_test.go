package point_test

import (
	"math/big"
	"slices"
	"testing"

	"primrose/api"
	"primrose/several"
)

// component is a primary ideal and its prime.
type component struct{ q, p []sum }

// around are a ring and the variables of u, and the rings made of them.
type around struct {
	r            api.Ring
	u            []int
	middle, thin api.Ring
	others       int
	places       []int // the index in r of the variable at each place of the middle ring, -1 of the new one
}

func aroundOf(r api.Ring, u []int) around {
	a := around{r: r, u: u, places: append(append(allBut(len(r.Names), u...), -1), u...)}
	a.others = len(r.Names) - len(u)
	for _, i := range a.places {
		name := newName(r)
		if i >= 0 {
			name = r.Names[i]
		}
		a.middle.Names = append(a.middle.Names, name)
	}
	a.middle.Order, a.middle.First = api.Block, a.others
	a.thin = api.Ring{Names: a.middle.Names[a.others:], Order: api.Lex}
	return a
}

// numbers are integers of any size.
func numbers(form []int) []*big.Int {
	var l []*big.Int
	for _, n := range form {
		l = append(l, big.NewInt(int64(n)))
	}
	return l
}

// single is the form that is one of the other variables.
func (a around) single(k int) []*big.Int {
	l := numbers(make([]int, a.others))
	l[k].SetInt64(1)
	return l
}

// powers is the form of an attempt.
func (a around) powers(k int) []*big.Int {
	l := numbers(make([]int, a.others))
	for i := range l {
		l[i].Exp(big.NewInt(int64(k)), big.NewInt(int64(i)), nil)
	}
	return l
}

// form is a linear form as a polynomial of the middle ring.
func (a around) form(l []*big.Int) sum {
	p := sum{}
	for k, n := range l {
		p = plus(p, times(power(k, 1), constant(new(big.Rat).SetInt(n))))
	}
	return p
}

func (c *words) least(a around, g []sum, l []*big.Int) sum {
	f := append(movedList(g, a.places), minus(power(a.others, 1), a.form(l)))
	b := slices.DeleteFunc(c.basis(a.middle, f), func(p sum) bool {
		for k := range a.others {
			if degreeIn(p, k) > 0 {
				return true
			}
		}
		return false
	})
	if len(b) != 1 {
		c.fault = "number of elements"
		panic(api.ErrPoint)
	}
	p := sum{}
	for k, n := range b[0] {
		var e key
		copy(e[:], k[a.others:])
		p[e] = n
	}
	return monic(a.thin, p)
}

// part is a factor, and its multiplicity.
type part struct {
	p sum
	n int
}

// factors is what Factor answers for a polynomial of the thin ring.
func (c *words) factors(a around, p sum) []part {
	c.calls++
	_, l, e := several.Factor(a.thin, p.terms(a.thin))
	if e != api.OK {
		c.fault = "factor"
		panic(e)
	}
	var all []part
	for _, x := range l {
		all = append(all, part{sumOf(x.P), x.N})
	}
	return all
}

// substitute is a polynomial of the thin ring with a form instead of the new variable,
// as one of r.
func (c *words) substitute(a around, p sum, l []*big.Int) sum {
	q := sum{}
	for k, n := range p {
		var e key
		copy(e[a.others+1:], k[1:])
		product := sum{e: n}
		for range k[0] {
			product = times(product, a.form(l))
			if isLong(product) {
				c.fault = "substitution"
				panic(api.ErrLong)
			}
		}
		q = plus(q, product)
	}
	return movedBack(q, a.places)
}

func (c *words) radical(a around, g []sum) []sum {
	all := slices.Clone(g)
	for k := range a.others {
		product := constant(rat(1, 1))
		for _, x := range c.factors(a, c.least(a, g, a.single(k))) {
			product = times(product, x.p)
		}
		all = append(all, c.substitute(a, product, a.single(k)))
	}
	return c.contract(a.r, all, a.u)
}

// attempt returns components, and -1; or nothing, and the place of the factor at which
// it fails.
func (c *words) attempt(a around, g []sum, l []*big.Int) (all []component, place int) {
	for place, x := range c.factors(a, c.least(a, g, l)) {
		product := constant(rat(1, 1))
		for range x.n {
			product = times(product, x.p)
		}
		q := c.contract(a.r, append(slices.Clone(g), c.substitute(a, product, l)), a.u)
		p := c.radical(a, q)
		if c.degree(a.r, p, a.u) != degreeIn(x.p, 0) {
			return nil, place
		}
		all = append(all, component{q, p})
		c.most = max(c.most, x.n)
	}
	return all, -1
}

func (c *words) components(a around, g []sum) []component {
	for k := range 50 {
		c.most = 0
		all, place := c.attempt(a, g, a.powers(k))
		if place < 0 {
			return all
		}
		c.failed = append(c.failed, place)
	}
	c.fault = "attempts"
	panic(api.ErrLong)
}

// start is the contraction, with which each call begins.
func (c *words) start(a around, f []sum) []sum {
	g := c.contract(a.r, f, a.u)
	if len(g) == 1 && isSame(g[0], constant(rat(1, 1))) {
		c.fault = "whole"
		panic(api.ErrWhole)
	}
	return g
}

// The words themselves, by hand.
func TestReference(t *testing.T) {
	r := api.Ring{Names: []string{"x", "t", "y", "z"}, Order: api.Grlex}
	a := aroundOf(r, []int{0, 2})
	if !slices.Equal(a.middle.Names, []string{"t", "z", "tt", "x", "y"}) || !slices.Equal(a.thin.Names, []string{"tt", "x", "y"}) || a.middle.First != 2 || a.thin.Order != api.Lex {
		t.Errorf("rings: %v", a)
	}
	p := sumOf(parsed(t, r, "x*t^2*y^3*z^4 - 1/2*z"))
	if m := moved(p, a.places); !isSame(m, sumOf(parsed(t, a.middle, "t^2*z^4*x*y^3 - 1/2*z"))) || !isSame(movedBack(m, a.places), p) {
		t.Errorf("moved: %v", m)
	}
	form := numbers([]int{2, -3})
	if q := (&words{}).substitute(a, sumOf(parsed(t, a.thin, "tt^2*x - 5*y")), form); !isSame(q, sumOf(parsed(t, r, "(2*t - 3*z)^2*x - 5*y"))) {
		t.Errorf("substitute: %v", q)
	}
	if l := a.powers(0); l[0].Int64() != 1 || l[1].Int64() != 0 {
		t.Errorf("powers: %v", l)
	}
	b := aroundOf(lex(3), nil)
	if l := b.powers(3); l[0].Int64() != 1 || l[1].Int64() != 3 || l[2].Int64() != 9 {
		t.Errorf("powers: %v", l)
	}
	if p := (&words{left: 100}).least(b, sumsOf(parsedList(t, lex(3), "x^2 - 2; y - x; z")), numbers([]int{1, 2, 7})); !isSame(p, sumOf(parsed(t, b.thin, "t^2 - 18"))) {
		t.Errorf("least: %v", p)
	}
	c := &words{left: 100}
	if g := c.radical(b, sumsOf(parsedList(t, lex(3), "x^2; y; z"))); printedList(lex(3), termsOf(lex(3), g)) != "z; y; x" || c.bases != 6 || c.calls != 3 {
		t.Errorf("radical: %v", g)
	}
}
