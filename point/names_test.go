package point_test

import (
	"testing"

	"primrose/api"
	"primrose/poly"
)

// The new variable has a name that the ring does not have. Which one it is does not show:
// all calls answer what they do with other names.
func TestNames(t *testing.T) {
	t.Parallel()
	s := noise(50)
	for _, names := range [][]string{
		{"t"}, {"tt"}, {"T"}, {"t", "tt"}, {"tt", "t"}, {"t", "ttt"}, {"tt", "ttt"}, {"t", "T"}, {"t", "tt", "ttt"}, {"ttt", "tt", "t"}, {"tt", "x", "ttt"}, {"t", "tt", "tttt"},
		{"x", "t", "y", "tt"}, {"tttt", "ttt", "tt", "t"}, {"t", "tt", "ttt", "tttt", "ttttt"}, {"ttttt", "tttt", "ttt", "tt", "t"},
		{"t", "tt", "ttt", "tttt", "tttttt"}, {"t1", "t2", "t", "tttttttt", "tt"},
	} {
		n := len(names)
		for _, r := range rings(n) {
			for range 2 {
				u := s.part(n)
				f := s.anyForms(r, s.sampleIdeal(t, r, u))
				for _, call := range calls() {
					q := question{call, r, f, u, s.form(n - len(u))}
					want := expectWords(t, q, 600)
					q.r.Names = names
					expect(t, q, 600, want)
					expectWords(t, q, 600)
				}
			}
		}
	}
}

// What Least answers is a polynomial of the thin ring, plain there.
func TestThinRing(t *testing.T) {
	for _, c := range []struct {
		names []string
		u     []int
		thin  []string
		want  string
	}{
		{[]string{"x", "y"}, y, []string{"t", "y"}, "t^2 - y^5 - y"}, {[]string{"t", "y"}, y, []string{"tt", "y"}, "tt^2 - y^5 - y"}, {[]string{"x", "t"}, y, []string{"tt", "t"}, "tt^2 - t^5 - t"},
		{[]string{"tt", "t"}, y, []string{"ttt", "t"}, "ttt^2 - t^5 - t"}, {[]string{"tt", "ttt"}, y, []string{"t", "ttt"}, "t^2 - ttt^5 - ttt"},
	} {
		r, thin := api.Ring{Names: c.names, Order: api.Grevlex}, api.Ring{Names: c.thin, Order: api.Lex}
		f := parsedList(t, r, c.names[0]+"^2 - "+c.names[1]+"^5 - "+c.names[1])
		a := question{"Least", r, f, c.u, []int{1}}.ask(100)
		if a.e != api.OK || printed(thin, a.p) != c.want || !poly.Right(thin, a.p) {
			t.Errorf("T1: %v: %s, error %d, not %s", c.names, printed(thin, a.p), a.e, c.want)
		}
	}
}
