package point_test

import (
	"math"
	"slices"
	"testing"

	"primrose/api"
	"primrose/ideal"
	"primrose/poly"
	"primrose/several"
)

// Sets of up to three variables, from the empty one on.
var (
	none    = []int(nil)
	x, y, z = []int{0}, []int{1}, []int{2}
	xy, xz  = []int{0, 1}, []int{0, 2}
	yz      = []int{1, 2}
)

// expectLeast expects an answer of Least, with each amount of fuel.
func expectLeast(t *testing.T, r api.Ring, f string, u, form []int, want string) (steps int) {
	t.Helper()
	q := question{"Least", r, parsedList(t, r, f), u, form}
	if a := q.ask(api.MaxFuel); a.e != api.OK || printed(q.thin(), a.p) != want {
		t.Errorf("T1: %v: %s, not %s", q, q.told(a), want)
	}
	return expectFuel(t, q, map[int]int{})
}

func TestT1Examples(t *testing.T) {
	for _, c := range []struct {
		names int
		f     string
		u     []int
		form  []int
		want  string
		steps int
	}{
		// One step of the wider ring's basis, and four of the middle ring's: the pair, the
		// division of x*t - 2, and the two pairs with what remains.
		{1, "x^2 - 2", none, []int{1}, "t^2 - 2", 5},
		{1, "x - 5/7", none, []int{1}, "t - 5/7", 4}, {1, "3*x - 1", none, []int{-6}, "t + 2", 4}, {1, "x^3", none, []int{1}, "t^3", 6}, {1, "x^3 - x", none, []int{2}, "t^3 - 4*t", 7},
		// Forms of zeros, which have a minimal polynomial also where there are infinitely many points.
		{1, "x^2 - 2", none, []int{0}, "t", 2}, {1, "", none, []int{0}, "t", 0}, {2, "0; 0", y, []int{0}, "t", 0}, {3, "x*y", none, []int{0, 0, 0}, "t", 2},
		{2, "x^2 - 2; y - x", none, []int{0, 1}, "t^2 - 2", 20}, {2, "x^2 - 2; y - x", none, []int{1, 0}, "t^2 - 2", 24}, {2, "x^2 - 2; y - x", none, []int{1, 1}, "t^2 - 8", 24},
		{2, "x^2 - 2; y - x", none, []int{1, -1}, "t", 18}, {2, "x^2 - 2; y - x", none, []int{-3, 4}, "t^2 - 2", 24}, {2, "x - 3; y + 2", none, []int{-1, 5}, "t + 13", 12},
		{2, "x^2 - 2; y^2 - 3", none, []int{1, 1}, "t^4 - 10*t^2 + 1", 31}, {2, "x^2; y^2", none, []int{1, 1}, "t^3", 20}, {2, "x^2; x*y; y^2", none, []int{1, -7}, "t^2", 31},
		// Infinitely many points, but finitely many values of the form.
		{2, "x^2 - 2", none, []int{1, 0}, "t^2 - 2", 5}, {2, "x^2 - 2*x*y + y^2 - 3", none, []int{1, -1}, "t^2 - 3", 6}, {2, "x^2 - 2*x*y + y^2 - 3", none, []int{-2, 2}, "t^2 - 12", 6},
		{3, "x*z - 3*z", z, []int{1, 0}, "t - 3", 7}, {3, "x*y - y", y, []int{1, 0}, "t - 1", 7},
		// Coefficients that are polynomials in u.
		{2, "x^2 - y", y, []int{1}, "t^2 - y", 5}, {2, "x^2 - y", y, []int{-3}, "t^2 - 9*y", 5}, {2, "x^2 - y", x, []int{1}, "t - x^2", 5}, {2, "x^2 - y", x, []int{2}, "t - 2*x^2", 5},
		{3, "y*x^2 - z - 1", yz, []int{1}, "t^2*y - z - 1", 13}, {3, "x^2*y - z; z^2 - x*y^3", y, []int{1, 0}, "t^4 - t*y", 267},
		// Divided by a leading coefficient of their own: in the middle ring y^2 leads.
		{2, "2*x + y^2", y, []int{1}, "t + 1/2*y^2", 5}, {2, "3*x^2 - y^3 + 2*y", y, []int{1}, "t^2 - 1/3*y^3 + 2/3*y", 5}, {2, "2*x*y - 3*y^4", y, []int{-1}, "t + 3/2*y^3", 12},
		{3, "5*x*y + z^7", yz, []int{1}, "t*y + 1/5*z^7", 4},
		// The contraction counts.
		{2, "x*y; x^2", y, []int{1}, "t", 10}, {2, "x^2*y - 2*y", y, []int{1}, "t^2 - 2", 8}, {2, "x*y - 2*x - y + 2", x, []int{1}, "t - 2", 8}, {2, "x*y - 2*x - y + 2", y, []int{1}, "t - 1", 8},
	} {
		if steps := expectLeast(t, lex(c.names), c.f, c.u, c.form, c.want); steps != c.steps {
			t.Errorf("T1: %s by %v takes %d steps, not %d", c.f, c.u, steps, c.steps)
		}
	}
}

// Each set of three variables: at the beginning, at the end, and between others.
func TestT1Sets(t *testing.T) {
	for _, r := range rings(3) {
		for _, c := range []struct {
			f    string
			u    []int
			form []int
			want string
		}{
			{"x^2 - y; y^2 - z", x, []int{1, 1}, "t - x^4 - x^2"}, {"x^2 - y; y^2 - z", x, []int{2, -1}, "t + x^4 - 2*x^2"},
			{"x^2 - y; y^2 - z", y, []int{1, 1}, "t^2 - 2*t*y^2 + y^4 - y"}, {"x^2 - y; y^2 - z", y, []int{0, 3}, "t - 3*y^2"},
			{"x^2 - y; y^2 - z", z, []int{1, 0}, "t^4 - z"}, {"x^2 - y; y^2 - z", z, []int{0, 2}, "t^2 - 4*z"}, {"x^2 - y; y^2 - z", z, []int{1, 1}, "t^4 - 2*t^2*z - 4*t*z + z^2 - z"},
			{"x*y*z^2 - 1", xy, []int{1}, "t^2*x*y - 1"}, {"x*y*z^2 - 1", xz, []int{1}, "t*x*z^2 - 1"}, {"x*y*z^2 - 1", yz, []int{2}, "t*y*z^2 - 2"},
			{"x - 2; y - 3; z - 5", none, []int{100, 10, 1}, "t - 235"}, {"x^2 - 2; y + x; z^3", none, []int{1, 1, 1}, "t^3"}, {"x^2 - 2; y + x; z^3", none, []int{2, 1, 0}, "t^2 - 2"},
		} {
			expectLeast(t, r, c.f, c.u, c.form, c.want)
		}
	}
}

// The greatest and the least integers.
func TestT1GreatForms(t *testing.T) {
	for _, c := range []struct {
		names int
		f     string
		form  []int
		want  string
	}{
		{1, "x - 1", []int{math.MaxInt}, "t - 9223372036854775807"}, {1, "x - 1", []int{math.MinInt}, "t + 9223372036854775808"}, {1, "x^2 - 2", []int{math.MinInt}, "t^2 - 170141183460469231731687303715884105728"},
		{1, "x^2 - 2", []int{math.MaxInt}, "t^2 - 170141183460469231694793815568465002498"}, {2, "x - 1; y - 1", []int{math.MaxInt, math.MinInt}, "t + 1"},
		{2, "x - 1; y - 1", []int{math.MinInt, math.MinInt}, "t + 18446744073709551616"}, {2, "x - 1; y + 1", []int{math.MaxInt, math.MinInt}, "t - 18446744073709551615"},
		{1, "x - 1", []int{1 << 32}, "t - 4294967296"}, {1, "x - 1", []int{-1 << 32}, "t + 4294967296"}, {1, "x - 1", []int{1<<32 - 1}, "t - 4294967295"}, {1, "x - 1", []int{-1<<63 + 1}, "t + 9223372036854775807"},
		{1, "9223372036854775808*x + 1", []int{math.MinInt}, "t - 1"},
	} {
		for _, r := range rings(c.names) {
			expectLeast(t, r, c.f, none, c.form, c.want)
		}
	}
}

// Infinitely many points, over the fractions of the variables of u: ErrPoint, as soon as
// the last basis is found.
func TestT1Points(t *testing.T) {
	for _, c := range []struct {
		names int
		f     string
		u     []int
		form  []int
	}{
		{1, "", none, []int{1}}, {2, "", none, []int{1, 0}}, {2, "", y, []int{-1}}, {3, "0", y, []int{0, 5}}, {2, "x^2 - 2", none, []int{0, 1}}, {2, "x^2 - 2", none, []int{1, 1}}, {2, "x*y", none, []int{1, 0}},
		{2, "x*y - 1", none, []int{1, 1}}, {2, "x - y", none, []int{1, 1}}, {3, "x - y; z", none, []int{1, 0, 0}}, {3, "x*z - y", z, []int{1, 0}}, {3, "x^2 - z^3", none, []int{0, 0, 1}},
	} {
		for _, r := range rings(c.names) {
			q := question{"Least", r, parsedList(t, r, c.f), c.u, c.form}
			a := q.words(api.MaxFuel)
			if a.fault != "number of elements" || a.bases != 4 {
				t.Errorf("T1: %v: %v", q, a)
			}
			expectSoon(t, q, len(a.places), api.ErrPoint)
		}
	}
}

// isMember reports whether a polynomial is in an ideal.
func isMember(t *testing.T, r api.Ring, p []api.Term, g [][]api.Term) bool {
	t.Helper()
	is, _, e := ideal.Member(r, p, g, api.MaxFuel)
	if e != api.OK {
		t.Fatalf("%s and %s in %v: %d", printed(r, p), printedList(r, g), r, e)
	}
	return is
}

// substituted is a polynomial of the thin ring with a form instead of the new variable.
func substituted(q question, p []api.Term) []api.Term {
	return (&words{}).substitute(aroundOf(q.r, q.u), sumOf(p), numbers(q.form)).terms(q.r)
}

// What is answered is in the ideal when the form is substituted, has the leading
// coefficient 1, and no factor in the variables of u alone; no factor of it is in the
// ideal instead, and nothing else of a degree so little.
func TestT1Definition(t *testing.T) {
	t.Parallel()
	s, tried, divided := noise(20), 0, 0
	for n := 1; n <= 5; n++ {
		for _, r := range rings(n) {
			for range 20 {
				u := s.part(n)
				q := question{"Least", r, s.anyForms(r, s.sampleIdeal(t, r, u)), u, s.form(n - len(u))}
				a := q.ask(600)
				g, _, e := contracted(q, 600)
				if a.e != api.OK || e != api.OK {
					continue
				}
				tried++
				w := aroundOf(r, u)
				if !isMember(t, r, substituted(q, a.p), g) || !poly.Right(w.thin, a.p) || !isRat(a.p[0].C, rat(1, 1)) {
					t.Fatalf("T1: %v: %s", q, q.told(a))
				}
				_, l, e := several.Factor(w.thin, a.p)
				if e != api.OK {
					continue
				}
				for _, x := range l {
					less, ok, _ := several.Divide(w.thin, a.p, x.P)
					if !ok || degreeIn(sumOf(x.P), 0) < 1 || isMember(t, r, substituted(q, less), g) {
						t.Fatalf("T1: %v: %s, with %s", q, q.told(a), printed(w.thin, x.P))
					}
					divided++
				}
			}
		}
	}
	if tried < 200 || divided < 250 {
		t.Errorf("only %d samples, and %d factors", tried, divided)
	}
}

// A multiple of the form has the same polynomial with a multiple of the variable, and a
// form of zeros has the variable alone.
func TestT1Multiples(t *testing.T) {
	t.Parallel()
	s, tried := noise(21), 0
	for n := 1; n <= 4; n++ {
		for _, r := range rings(n) {
			for range 18 {
				u := s.part(n)
				f := s.anyForms(r, s.sampleIdeal(t, r, u))
				form, times := s.form(n-len(u)), s.below(9)-4
				more := slices.Clone(form)
				for k := range more {
					more[k] *= times
				}
				a, b := question{"Least", r, f, u, form}.ask(600), question{"Least", r, f, u, more}.ask(600)
				if a.e != api.OK || b.e != api.OK {
					continue
				}
				tried++
				want := power(0, 1)
				if times != 0 {
					want = sum{}
					for e, c := range sumOf(a.p) {
						want[e] = c.Mul(c, ratPower(times, -e[0]))
					}
				}
				thin := aroundOf(r, u).thin
				if !isForm(thin, b.p, monic(thin, want)) {
					t.Fatalf("T1: %s by %v with %v in %v: %s, but with %v: %s", printedList(r, f), u, form, r, printed(thin, a.p), more, printed(thin, b.p))
				}
			}
		}
	}
	if tried < 100 {
		t.Errorf("only %d samples", tried)
	}
}
