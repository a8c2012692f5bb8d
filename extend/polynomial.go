package extend

import (
	"slices"

	"primrose/api"
)

// one returns the polynomial 1.
func one(r api.Ring) []api.Term {
	c := api.Rat{Num: api.Int{Mag: []uint32{1}}, Den: []uint32{1}}
	return []api.Term{{C: c, E: make([]int, len(r.Names))}}
}

// areSame reports whether two plain polynomials are the same.
func areSame(p, q []api.Term) bool {
	return slices.EqualFunc(p, q, isSame)
}

func isSame(s, t api.Term) bool {
	return s.C.Num.Neg == t.C.Num.Neg && slices.Equal(s.C.Num.Mag, t.C.Num.Mag) && slices.Equal(s.C.Den, t.C.Den) && slices.Equal(s.E, t.E)
}
