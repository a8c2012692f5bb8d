package extend

import (
	"slices"

	"primrose/api"
	"primrose/poly"
)

// over returns the quotient of two plain polynomials, of which h divides p and has the
// leading coefficient 1.
func over(r api.Ring, p, h []api.Term) []api.Term {
	tail, _ := poly.Sub(r, nil, h[1:])
	rest := &dividend{r, [][]api.Term{p}}
	var quotient []api.Term
	for t, ok := rest.next(); ok; t, ok = rest.next() {
		for i, n := range h[0].E {
			t.E[i] -= n
		}
		quotient = append(quotient, t)
		multiple, _ := poly.Mul(r, tail, []api.Term{t})
		rest.add(multiple)
	}
	return quotient
}

// dividend is what is still to be divided, as the sum of plain polynomials. Each had
// more than twice as many terms as the next one when that was added: so there are not
// many of them, and to add a few terms seldom takes a passage through all the others.
type dividend struct {
	ring  api.Ring
	parts [][]api.Term // none of them 0
}

// add adds a plain polynomial.
func (d *dividend) add(p []api.Term) {
	for k := len(d.parts) - 1; k >= 0 && len(d.parts[k]) <= 2*len(p); k-- {
		p, _ = poly.Add(d.ring, d.parts[k], p)
		d.parts = d.parts[:k]
	}
	if len(p) > 0 {
		d.parts = append(d.parts, p)
	}
}

// next removes the leading term and returns it, and true, if there is one.
func (d *dividend) next() (api.Term, bool) {
	for len(d.parts) > 0 {
		// The terms of the greatest monomial of all parts may cancel.
		t, e := poly.Lead(d.ring, d.take(d.greatest()))
		if e == api.OK {
			return t, true
		}
	}
	return api.Term{}, false
}

// greatest returns the greatest monomial of all parts.
func (d *dividend) greatest() []int {
	same := d.parts[0][0].C // so that none cancels
	var leads []api.Term
	for _, p := range d.parts {
		leads = append(leads, api.Term{C: same, E: p[0].E})
	}
	t, _ := poly.Lead(d.ring, leads)
	return t.E
}

// take removes the terms of the greatest monomial and returns them.
func (d *dividend) take(e []int) []api.Term {
	var l []api.Term
	for k, p := range d.parts {
		if slices.Equal(p[0].E, e) {
			l = append(l, p[0])
			d.parts[k] = p[1:]
		}
	}
	d.parts = slices.DeleteFunc(d.parts, func(p []api.Term) bool { return len(p) == 0 })
	return l
}
