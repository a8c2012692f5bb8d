package reduce

import (
	"primrose/api"
	"primrose/mono"
	"primrose/poly"
)

// division is a division under way.
type division struct {
	p         *dividend
	l         []divisor
	quotients [][]api.Term // nil if they are not asked for, as they may be far longer than the rest
	rest      []api.Term
	fuel      int
}

// newDivision returns a division ahead of its first step, or the error of its
// arguments.
func newDivision(r api.Ring, p []api.Term, l [][]api.Term, fuel int) (*division, api.Errno) {
	p, e := poly.Norm(r, p)
	if e != api.OK {
		return nil, e
	}
	divisors := make([]divisor, len(l))
	for k, f := range l {
		if divisors[k], e = newDivisor(r, f); e != api.OK {
			return nil, e
		}
	}
	if fuel < 0 || fuel > api.MaxFuel {
		return nil, api.ErrArg
	}
	return &division{p: newDividend(r, p), l: divisors, fuel: fuel}, api.OK
}

// run divides until p is 0.
func (d *division) run() api.Errno {
terms:
	for t, ok := d.p.next(); ok; t, ok = d.p.next() {
		fits := func(f *divisor) bool {
			_, ok := mono.Div(t.E, f.lead.E)
			return ok
		}
		for k := 0; ; k++ {
			switch {
			case k == len(d.l):
				d.rest = append(d.rest, d.p.value(t))
				continue terms
			case fits(&d.l[k]):
				if e := d.step(t, k); e != api.OK {
					return e
				}
				continue terms
			}
		}
	}
	return api.OK
}

// step cancels t, the leading term of p, by the element k of l.
func (d *division) step(t api.Term, k int) api.Errno {
	if d.fuel == 0 {
		return api.ErrFuel
	}
	d.fuel--
	f := &d.l[k]
	if d.quotients != nil {
		d.quotients[k] = append(d.quotients[k], over(d.p.value(t), f.lead))
	}
	return d.p.cancel(t, f.whole())
}
