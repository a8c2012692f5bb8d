package desk

import (
	"strings"

	"primrose/api"
	"primrose/mono"
	"primrose/notation"
)

const (
	firstFuel = 1000
	maxIdeals = 20
)

// A desk is the state of the interpreter, and the output so far.
type desk struct {
	ring   api.Ring
	fuel   int
	ideals map[string][][]api.Term
	out    strings.Builder
}

// atFirst returns the state ahead of all lines.
func atFirst() *desk {
	return &desk{
		ring:   api.Ring{Names: []string{"x", "y", "z"}, Order: api.Lex},
		fuel:   firstFuel,
		ideals: map[string][][]api.Term{},
	}
}

// takeRing makes a ring of an order and names, in which the ideals so far have no place.
func (d *desk) takeRing(words []string) api.Errno {
	if len(words) < 2 {
		return api.ErrLine
	}
	r := api.Ring{Names: words[2:], Order: order(words[1])}
	if e := mono.Check(r); e != api.OK {
		return e
	}
	d.ring = r
	clear(d.ideals)
	d.tell("ok")
	return api.OK
}

// takeFuel makes a number the fuel of each call.
func (d *desk) takeFuel(words []string) api.Errno {
	if len(words) != 2 {
		return api.ErrLine
	}
	fuel, ok := number(words[1])
	switch {
	case !ok:
		return api.ErrLine
	case fuel > api.MaxFuel:
		return api.ErrArg
	}
	d.fuel = fuel
	d.tell("ok")
	return api.OK
}

// takeIdeal gives a name to the ideal of polynomials.
func (d *desk) takeIdeal(line string) api.Errno {
	words, ok := withText(line)
	if !ok || !isName(words[1]) {
		return api.ErrLine
	}
	if _, ok := d.ideals[words[1]]; ok || len(d.ideals) == maxIdeals {
		return api.ErrGiven
	}
	var f [][]api.Term
	for _, text := range strings.Split(words[2], ",") {
		p, e := notation.Parse(d.ring, text)
		if e != api.OK {
			return e
		}
		f = append(f, p)
	}
	d.ideals[words[1]] = f
	d.tell("ok")
	return api.OK
}

// named returns the ideal with a name.
func (d *desk) named(name string) (f [][]api.Term, e api.Errno) {
	f, ok := d.ideals[name]
	if !ok {
		return nil, api.ErrGiven
	}
	return f, api.OK
}

// one returns the ideal of a line that names one and has no further words.
func (d *desk) one(words []string) (f [][]api.Term, e api.Errno) {
	if len(words) != 2 {
		return nil, api.ErrLine
	}
	return d.named(words[1])
}

// two returns the ideals of a line that names two and has no further words.
func (d *desk) two(words []string) (f, h [][]api.Term, e api.Errno) {
	if len(words) != 3 {
		return nil, nil, api.ErrLine
	}
	f, e = d.named(words[1])
	if e != api.OK {
		return nil, nil, e
	}
	h, e = d.named(words[2])
	return f, h, e
}

// oneAndText returns the ideal and the polynomial of a line with a name and a text.
func (d *desk) oneAndText(line string) (f [][]api.Term, p []api.Term, e api.Errno) {
	words, ok := withText(line)
	if !ok {
		return nil, nil, api.ErrLine
	}
	f, e = d.named(words[1])
	if e != api.OK {
		return nil, nil, e
	}
	p, e = notation.Parse(d.ring, words[2])
	return f, p, e
}
