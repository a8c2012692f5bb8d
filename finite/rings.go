package finite

import (
	"slices"

	"primrose/api"
)

// rings are a ring, with its other variables and those of u, and the rings that also
// have the new variable: the middle ring has it between the others and those of u, the
// thin ring before those of u.
type rings struct {
	ring, middle, thin api.Ring
	others, u          []int
}

// ringsOf returns the rings of r and of some of its variables.
func ringsOf(r api.Ring, u []int) rings {
	s := rings{ring: r, u: u}
	var first, last []string
	for i, name := range r.Names {
		if slices.Contains(u, i) {
			last = append(last, name)
		} else {
			s.others, first = append(s.others, i), append(first, name)
		}
	}
	s.thin = api.Ring{Names: slices.Concat([]string{newName(r)}, last), Order: api.Lex}
	s.middle = api.Ring{Names: slices.Concat(first, s.thin.Names), Order: api.Block, First: len(first)}
	return s
}

// newName returns the name of the new variable.
func newName(r api.Ring) string {
	name := "t"
	for slices.Contains(r.Names, name) {
		name += "t"
	}
	return name
}

// toMiddle returns polynomials of r as ones of the middle ring.
func (s rings) toMiddle(f [][]api.Term) [][]api.Term {
	l := make([][]api.Term, len(f))
	for k, p := range f {
		for _, t := range p {
			e := make([]int, len(s.middle.Names))
			for place, i := range s.others {
				e[place] = t.E[i]
			}
			for place, i := range s.u {
				e[len(s.others)+1+place] = t.E[i]
			}
			l[k] = append(l[k], api.Term{C: t.C, E: e})
		}
	}
	return l
}

// fromMiddle returns a polynomial of the middle ring without the new variable as one
// of r, whose terms need not be in order.
func (s rings) fromMiddle(p []api.Term) []api.Term {
	var l []api.Term
	for _, t := range p {
		e := make([]int, len(s.ring.Names))
		for place, i := range s.others {
			e[i] = t.E[place]
		}
		for place, i := range s.u {
			e[i] = t.E[len(s.others)+1+place]
		}
		l = append(l, api.Term{C: t.C, E: e})
	}
	return l
}

// containsOther reports whether a plain polynomial of the middle ring contains one of
// the other variables.
func (s rings) containsOther(p []api.Term) bool {
	// The order makes monomials that do greater than those that don't.
	return slices.Max(p[0].E[:len(s.others)]) > 0
}

// toThin returns a polynomial of the middle ring without other variables as one of the
// thin ring, whose terms need not be in order.
func (s rings) toThin(p []api.Term) []api.Term {
	var l []api.Term
	for _, t := range p {
		l = append(l, api.Term{C: t.C, E: t.E[len(s.others):]})
	}
	return l
}

// fromThin returns a polynomial of the thin ring as one of the middle ring.
func (s rings) fromThin(p []api.Term) []api.Term {
	var l []api.Term
	for _, t := range p {
		l = append(l, api.Term{C: t.C, E: slices.Concat(make([]int, len(s.others)), t.E)})
	}
	return l
}

// variable returns the variable at a place of the middle ring as a polynomial of it,
// which need not be plain.
func (s rings) variable(place int) []api.Term {
	return []api.Term{s.term(1, place)}
}

// form returns a linear form as a polynomial of the middle ring, which need not be
// plain.
func (s rings) form(numbers []int) []api.Term {
	var l []api.Term
	for place, n := range numbers {
		l = append(l, s.term(n, place))
	}
	return l
}

// term returns an integer times the variable at a place of the middle ring.
func (s rings) term(n, place int) api.Term {
	e := make([]int, len(s.middle.Names))
	e[place] = 1
	return api.Term{C: number(n), E: e}
}

// number returns an integer as a fraction, which need not be plain.
func number(n int) api.Rat {
	size := uint64(n)
	if n < 0 {
		size = -size
	}
	return api.Rat{Num: api.Int{Neg: n < 0, Mag: []uint32{uint32(size), uint32(size >> 32)}}, Den: []uint32{1}}
}
