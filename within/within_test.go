package within_test

import (
	"strings"
	"testing"

	"primrose/api"
	"primrose/notation"
	"primrose/within"
)

// parsed are the polynomials of a text with semicolons between them.
func parsed(t *testing.T, r api.Ring, text string) [][]api.Term {
	t.Helper()
	var l [][]api.Term
	for part := range strings.SplitSeq(text, ";") {
		p, e := notation.Parse(r, part)
		if e != api.OK {
			t.Fatalf("%q: %d", part, e)
		}
		l = append(l, p)
	}
	return l
}

// The steps are those of all divisions up to the first remainder that is not 0; what
// stands behind it is not divided.
func TestBasis(t *testing.T) {
	t.Parallel()
	r := api.Ring{Names: []string{"x", "y"}}
	for _, x := range []struct {
		f, g  string
		want  bool
		steps int
	}{
		{"0", "x", true, 0}, {"x", "x", true, 1}, {"x^2 - y^2", "x - y", true, 2}, {"x; x*y; x*y^2", "x", true, 3}, {"x; y; x", "x", false, 1}, {"y; x; x", "x", false, 0}, {"x; x*y; x + y", "x", false, 3},
		{"x^2 + 1; x", "x", false, 1}, {"0; x; 0", "x; y", true, 1}, {"1", "x; y", false, 0}, {"x; 3", "1", true, 2}, {"x^3 - x", "y; x^2 - 1", true, 1}, {"x", "0", false, 0},
	} {
		f, g := parsed(t, r, x.f), parsed(t, r, x.g)
		for fuel := range x.steps {
			if is, left, e := within.Basis(r, f, g, fuel); is || left != 0 || e != api.ErrFuel {
				t.Errorf("%s in %s with %d: %t, %d, error %d", x.f, x.g, fuel, is, left, e)
			}
		}
		for _, more := range []int{0, 1, 100, api.MaxFuel - x.steps} {
			if is, left, e := within.Basis(r, f, g, x.steps+more); is != x.want || left != more || e != api.OK {
				t.Errorf("%s in %s with %d: %t, %d, error %d", x.f, x.g, x.steps+more, is, left, e)
			}
		}
	}
	if is, left, e := within.Basis(r, nil, parsed(t, r, "x"), 7); !is || left != 7 || e != api.OK {
		t.Errorf("nothing: %t, %d, error %d", is, left, e)
	}
}

// A division that is too great is an error, unless one before it leaves something.
func TestTooGreat(t *testing.T) {
	t.Parallel()
	r := api.Ring{Names: []string{"x", "y"}}
	g := parsed(t, r, "x - y^40000")
	for _, x := range []struct {
		f    string
		want api.Errno
	}{{"x^2", api.ErrLong}, {"0; x^2", api.ErrLong}, {"y; x^2", api.OK}} {
		if is, left, e := within.Basis(r, parsed(t, r, x.f), g, 10); is || e != x.want || e != api.OK && left != 0 {
			t.Errorf("%s: %t, %d, error %d", x.f, is, left, e)
		}
	}
}
