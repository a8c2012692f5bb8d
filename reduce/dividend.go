package reduce

import (
	"container/heap"

	"primrose/api"
	"primrose/fraction"
	"primrose/mono"
)

// dividend is what is still to be divided. Its terms have a common denominator: the
// sum of two fractions costs common divisors, which for great numbers take many
// times longer than products.
type dividend struct {
	ring        api.Ring
	denominator api.Rat
	terms       map[monomial]*api.Term // with integers as coefficients, which may be 0
	order       []*api.Term            // the same, as a heap with the leading one first
}

// monomial is a list of exponents as a value, so that it can be a key.
type monomial [api.MaxVars]int

func keyOf(e []int) monomial {
	var k monomial
	copy(k[:], e)
	return k
}

// newDividend takes over the memory of a plain polynomial.
func newDividend(r api.Ring, p []api.Term) *dividend {
	d := &dividend{ring: r, denominator: clearDenominators(p), terms: map[monomial]*api.Term{}}
	for k := range p { // these are in order, and so already a heap
		d.terms[keyOf(p[k].E)] = &p[k]
		d.order = append(d.order, &p[k])
	}
	return d
}

// next removes the leading term and returns it, and true, if there is one. Its
// coefficient still lacks the denominator.
func (d *dividend) next() (api.Term, bool) {
	for len(d.order) > 0 {
		t := heap.Pop(d).(*api.Term)
		delete(d.terms, keyOf(t.E))
		if fraction.Sign(t.C) != 0 {
			return *t, true
		}
	}
	return api.Term{}, false
}

// value returns a term that next has returned with its denominator.
func (d *dividend) value(t api.Term) api.Term {
	t.C, _ = fraction.Div(t.C, d.denominator)
	return t
}

// cancel subtracts the multiple of a divisor whose leading term is t. That term has
// already been removed.
func (d *dividend) cancel(t api.Term, f []api.Term) api.Errno {
	by := over(t, f[0])
	d.extend(integer(api.Int{Mag: by.C.Den}))
	c := fraction.Neg(integer(by.C.Num))
	for _, s := range f[1:] {
		e, ok := mono.Mul(s.E, by.E)
		if !ok {
			return api.ErrLong
		}
		d.add(api.Term{C: fraction.Mul(s.C, c), E: e})
	}
	return api.OK
}

// extend multiplies the denominator, and with it the coefficients.
func (d *dividend) extend(by api.Rat) {
	if fraction.Cmp(by, fraction.Of(1)) == 0 {
		return
	}
	d.denominator = fraction.Mul(d.denominator, by)
	for _, t := range d.order {
		t.C = fraction.Mul(t.C, by)
	}
}

func (d *dividend) add(t api.Term) {
	k := keyOf(t.E)
	if same := d.terms[k]; same != nil {
		same.C = fraction.Add(same.C, t.C)
		return
	}
	d.terms[k] = &t
	heap.Push(d, &t)
}

func (d *dividend) Len() int           { return len(d.order) }
func (d *dividend) Less(i, k int) bool { return mono.Cmp(d.ring, d.order[i].E, d.order[k].E) > 0 }
func (d *dividend) Swap(i, k int)      { d.order[i], d.order[k] = d.order[k], d.order[i] }
func (d *dividend) Push(t any)         { d.order = append(d.order, t.(*api.Term)) }

func (d *dividend) Pop() any {
	last := len(d.order) - 1
	t := d.order[last]
	d.order = d.order[:last]
	return t
}
