package desk

import (
	"strings"

	"primrose/api"
	"primrose/notation"
)

// tell outputs a line of words with single spaces between them.
func (d *desk) tell(words ...string) {
	d.out.WriteString(strings.Join(words, " "))
	d.out.WriteByte('\n')
}

// tellBasis outputs a basis. An empty word leaves the space in front of a polynomial.
func (d *desk) tellBasis(g [][]api.Term) {
	for _, p := range g {
		text, _ := notation.Print(d.ring, p) // no error: the calls return polynomials of the ring
		d.tell("", text)
	}
	d.tell("ok")
}

// tellResult outputs the basis that a call returned, unless there is an error.
func (d *desk) tellResult(g [][]api.Term, e api.Errno) api.Errno {
	if e == api.OK {
		d.tellBasis(g)
	}
	return e
}

// tellWhether outputs what a call found to be so or not, unless there is an error.
func (d *desk) tellWhether(is bool, e api.Errno) api.Errno {
	switch {
	case e != api.OK:
		return e
	case is:
		d.tell("yes")
	default:
		d.tell("no")
	}
	return api.OK
}
