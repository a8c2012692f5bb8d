package finite_test

import (
	"slices"
	"strings"
	"testing"

	"primrose/api"
	"primrose/extend"
	"primrose/finite"
	"primrose/notation"
	"primrose/point"
)

// parsed are the polynomials of a text with semicolons between them.
func parsed(t *testing.T, r api.Ring, text string) [][]api.Term {
	t.Helper()
	var l [][]api.Term
	for part := range strings.SplitSeq(text, ";") {
		p, e := notation.Parse(r, part)
		if e != api.OK {
			t.Fatalf("%q: %d", part, e)
		}
		l = append(l, p)
	}
	return l
}

// printed has semicolons between polynomials.
func printed(r api.Ring, l [][]api.Term) string {
	var all []string
	for _, p := range l {
		text, _ := notation.Print(r, p)
		all = append(all, text)
	}
	return strings.Join(all, "; ")
}

// told is components as a text.
func told(r api.Ring, l []api.Component) string {
	text := ""
	for _, x := range l {
		text += "(" + printed(r, x.Q) + " | " + printed(r, x.P) + ")"
	}
	return text
}

// call is a call that takes an ideal as it is, and that of layer 20, which contracts it
// before; with a text of what they answer.
type call struct {
	asItIs, contracting func(r api.Ring, g [][]api.Term, u []int, fuel int) (text string, left int, e api.Errno)
}

// calls are all calls of the package; the form is the sum of all other variables.
func calls() map[string]call {
	ones := func(r api.Ring, u []int) []int { return slices.Repeat([]int{1}, len(r.Names)-len(u)) }
	thin := func(r api.Ring, u []int) api.Ring {
		names := []string{"t"}
		for _, i := range u {
			names = append(names, r.Names[i])
		}
		return api.Ring{Names: names}
	}
	return map[string]call{
		"Least": {
			func(r api.Ring, g [][]api.Term, u []int, fuel int) (string, int, api.Errno) {
				p, left, e := finite.Least(r, g, u, ones(r, u), fuel)
				return printed(thin(r, u), [][]api.Term{p}), left, e
			},
			func(r api.Ring, g [][]api.Term, u []int, fuel int) (string, int, api.Errno) {
				p, left, e := point.Least(r, g, u, ones(r, u), fuel)
				return printed(thin(r, u), [][]api.Term{p}), left, e
			},
		},
		"Radical": {
			func(r api.Ring, g [][]api.Term, u []int, fuel int) (string, int, api.Errno) {
				g, left, e := finite.Radical(r, g, u, fuel)
				return printed(r, g), left, e
			},
			func(r api.Ring, g [][]api.Term, u []int, fuel int) (string, int, api.Errno) {
				g, left, e := point.Radical(r, g, u, fuel)
				return printed(r, g), left, e
			},
		},
		"Components": {
			func(r api.Ring, g [][]api.Term, u []int, fuel int) (string, int, api.Errno) {
				l, left, e := finite.Components(r, g, u, fuel)
				return told(r, l), left, e
			},
			func(r api.Ring, g [][]api.Term, u []int, fuel int) (string, int, api.Errno) {
				l, left, e := point.Components(r, g, u, fuel)
				return told(r, l), left, e
			},
		},
	}
}

// A call answers what that of layer 20 does with the fuel that this has behind its
// contraction, be it enough or not. All of MaxFuel may be given, of which the contraction
// would take some.
func TestAsItIs(t *testing.T) {
	t.Parallel()
	r := api.Ring{Names: []string{"x", "y", "z"}}
	for _, x := range []struct {
		g string
		u []int
	}{
		{"z; y; x", nil}, {"z - 1; y^2; x*y; x^2", nil}, {"z; y^2 - y; x", nil}, {"y^2 - 3; x^2 - 2; z - x*y", nil}, {"y^2; x^2 - z", []int{2}}, {"x*y - z", []int{1, 2}}, {"z^2; y*z - 1", []int{0}},
		{"y^2 - z; x^2 - z", []int{2}}, {"x^2 - 3*x*z + 2*z^2", []int{1, 2}}, {"x^13", []int{1, 2}}, {"y", []int{2}}, {"x^300 - 2; y; z", nil},
	} {
		f := parsed(t, r, x.g)
		g, _, e := extend.Contract(r, f, x.u, api.MaxFuel)
		if e != api.OK || printed(r, g) == "1" {
			continue
		}
		_, left, _ := extend.Contract(r, g, x.u, api.MaxFuel)
		contraction := api.MaxFuel - left
		for name, call := range calls() {
			all, left, e := call.asItIs(r, g, x.u, api.MaxFuel)
			steps := api.MaxFuel - left
			if e != api.OK {
				steps = 300
				if left != 0 {
					t.Errorf("%s of %s: error %d and %d left", name, x.g, e, left)
				}
			}
			for fuel := range steps + 2 {
				text, left, e := call.asItIs(r, g, x.u, fuel)
				want, wantLeft, wantE := call.contracting(r, g, x.u, fuel+contraction)
				if text != want || left != wantLeft || e != wantE || e == api.OK && text != all {
					t.Fatalf("%s of %s with %d: %s, %d, error %d, not %s, %d, error %d", name, x.g, fuel, text, left, e, want, wantLeft, wantE)
				}
			}
		}
	}
}

// The errors are those of layer 20 behind its checks of arguments.
func TestErrors(t *testing.T) {
	t.Parallel()
	r := api.Ring{Names: []string{"x", "y"}}
	for _, x := range []struct {
		call, g string
		u       []int
		want    api.Errno
	}{
		{"Least", "y", nil, api.ErrPoint}, {"Radical", "y", nil, api.ErrPoint}, {"Components", "y", nil, api.ErrPoint}, {"Radical", "x^13", []int{1}, api.ErrLong}, {"Components", "x^13", []int{1}, api.ErrLong},
		{"Radical", "x^16 - y", []int{1}, api.ErrLong}, {"Least", "x^2 - y; y^2", nil, api.OK},
	} {
		if _, left, e := calls()[x.call].asItIs(r, parsed(t, r, x.g), x.u, 1000); e != x.want || e != api.OK && left != 0 {
			t.Errorf("%s of %s: %d left, error %d, not %d", x.call, x.g, left, e, x.want)
		}
	}
}
