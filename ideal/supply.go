package ideal

import (
	"slices"

	"primrose/api"
	"primrose/basis"
	"primrose/within"
)

// supply is the fuel of a call: the steps in all rings that it works in are taken
// from it.
type supply struct {
	left int
}

// basis returns the reduced basis of the ideal that f generates in a ring.
func (s *supply) basis(r api.Ring, f [][]api.Term) (g [][]api.Term, e api.Errno) {
	g, s.left, e = basis.Reduced(r, f, s.left)
	return g, e
}

// within reports whether nothing remains of the elements of f when they are divided by g
// in a ring.
func (s *supply) within(r api.Ring, f, g [][]api.Term) (is bool, e api.Errno) {
	is, s.left, e = within.Basis(r, f, g, s.left)
	return is, e
}

// elimination returns those elements of the basis of f in a ring that do not contain
// its first k variables.
func (s *supply) elimination(r api.Ring, f [][]api.Term, k int) ([][]api.Term, api.Errno) {
	g, e := s.basis(r, f)
	return slices.DeleteFunc(g, func(p []api.Term) bool { return containsFirst(p, k) }), e
}

// containsFirst reports whether a plain polynomial contains one of the first k
// variables.
func containsFirst(p []api.Term, k int) bool {
	return slices.ContainsFunc(p, func(t api.Term) bool { return slices.Max(t.E[:k]) > 0 })
}

// answer returns a result or the error instead of it, and the remaining fuel.
func (s *supply) answer(g [][]api.Term, e api.Errno) ([][]api.Term, int, api.Errno) {
	if e != api.OK {
		return nil, 0, e
	}
	return g, s.left, api.OK
}
