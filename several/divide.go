package several

import (
	"container/heap"

	"primrose/api"
	"primrose/whole"
)

// divide returns the polynomial with integer coefficients whose product with q is
// p, and true, if there is one. Neither p nor q is 0.
func divide(p, q []term) ([]term, bool) {
	least, most := limits(p, q)
	rest := newRemainder(p)
	var quotient []term
	for {
		first, ok := rest.next()
		if !ok {
			return quotient, true
		}
		t, ok := over(first, q[0], least, most)
		if !ok {
			return nil, false
		}
		quotient = append(quotient, t)
		for _, s := range q[1:] {
			rest.subtract(times(s, t))
		}
	}
}

// limits returns the least and the greatest exponent of each variable that there can
// be in a quotient: those of a product are the sums of those of its factors. Without
// these limits a division that fails could take very long.
func limits(p, q []term) (least, most monomial) {
	least, most = bounds(p)
	low, high := bounds(q)
	for i := range least {
		least[i] = max(least[i]-low[i], 0)
		most[i] -= high[i]
	}
	return least, most
}

// remainder is what is still to be divided: the coefficients, which may be 0, and
// a heap of their monomials.
type remainder struct {
	coefficients map[monomial]api.Int
	monomials    descending
}

func newRemainder(p []term) *remainder {
	r := &remainder{coefficients: map[monomial]api.Int{}}
	for _, t := range p { // these are in order, and so already a heap
		r.coefficients[t.e] = t.c
		r.monomials = append(r.monomials, t.e)
	}
	return r
}

// next removes the leading term and returns it, and true, if there is one.
func (r *remainder) next() (term, bool) {
	for len(r.monomials) > 0 {
		e := heap.Pop(&r.monomials).(monomial)
		c := r.coefficients[e]
		delete(r.coefficients, e)
		if whole.Sign(c) != 0 {
			return term{c, e}, true
		}
	}
	return term{}, false
}

func (r *remainder) subtract(t term) {
	c, ok := r.coefficients[t.e]
	if !ok {
		heap.Push(&r.monomials, t.e)
	}
	r.coefficients[t.e] = whole.Sub(c, t.c)
}

// descending is a heap with the greatest monomial first.
type descending []monomial

func (d descending) Len() int           { return len(d) }
func (d descending) Less(i, k int) bool { return compareLex(d[i], d[k]) > 0 }
func (d descending) Swap(i, k int)      { d[i], d[k] = d[k], d[i] }
func (d *descending) Push(e any)        { *d = append(*d, e.(monomial)) }

func (d *descending) Pop() any {
	last := len(*d) - 1
	e := (*d)[last]
	*d = (*d)[:last]
	return e
}
