package point_test

import (
	"slices"
	"testing"

	"primrose/api"
	"primrose/basis"
	"primrose/extend"
)

// contracted is the contraction of the ideal of a question.
func contracted(q question, fuel int) (g [][]api.Term, left int, e api.Errno) {
	return extend.Contract(q.r, q.f, q.u, fuel)
}

// expectRadical expects an answer of Radical, with each amount of fuel.
func expectRadical(t *testing.T, r api.Ring, f string, u []int, want string) (steps int) {
	t.Helper()
	q := question{"Radical", r, parsedList(t, r, f), u, nil}
	if a := q.ask(api.MaxFuel); a.e != api.OK || printedList(r, a.g) != want {
		t.Errorf("T2: %v: %s, not %s", q, q.told(a), want)
	}
	return expectFuel(t, q, map[int]int{})
}

func TestT2Examples(t *testing.T) {
	t.Parallel()
	for _, c := range []struct {
		names int
		f     string
		u     []int
		want  string
		steps int
	}{
		// The ideal itself.
		{1, "x", none, "x", 8}, {1, "x^2 - 2", none, "x^2 - 2", 9}, {2, "x; y", none, "y; x", 34}, {2, "x^2 - y", y, "x^2 - y", 9}, {2, "x^2 - y", x, "x^2 - y", 9}, {2, "x^2 - 2; y^2 - 3", none, "y^2 - 3; x^2 - 2", 36},
		{2, "x^2 - x; y^2 + y", none, "y^2 + y; x^2 - x", 38}, {3, "x*y*z - 1", xz, "x*y*z - 1", 17}, {3, "x^2*y - z", yz, "x^2*y - z", 19}, {2, "2*x + y^2", y, "x + 1/2*y^2", 9},
		// Greater ones.
		{1, "x^2", none, "x", 9}, {1, "x^3 - x^2", none, "x^2 - x", 12}, {1, "x^4 - 4*x^2 + 4", none, "x^2 - 2", 15}, {2, "x^2; y^3", none, "y; x", 37}, {2, "x^2; x*y; y^2", none, "y; x", 70},
		{2, "x^2 - 2*x*y + y^2; y^2 - 2", none, "y^2 - 2; x - y", 90}, {2, "x^4 - 2*x^2*y + y^2", y, "x^2 - y", 15}, {2, "x^4 - 2*x^2*y + y^2", x, "x^2 - y", 12},
		{3, "x^2*z^2 - 2*x*z + 1", xy, "x*z - 1", 41}, {3, "(x*z - 1)^2; (y - x*z)^3", z, "y - 1; x*z - 1", 371},
		{3, "x^2 - 2*z*x + z^2; y^2", z, "y; x - z", 39}, {3, "x^2; y^2 + x; z^2 + y", none, "z; y; x", 194},
		// Parts that are gone when it is contracted.
		{2, "x*y; x^3", y, "x", 14}, {2, "x^2*y^3 - 2*x*y^3 + y^3", y, "x - 1", 16}, {3, "x^2*z; y^3*z - y^3", z, "y; x", 55},
	} {
		if steps := expectRadical(t, lex(c.names), c.f, c.u, c.want); steps != c.steps {
			t.Errorf("T2: %s by %v takes %d steps, not %d", c.f, c.u, steps, c.steps)
		}
	}
}

// Results are in the order of r.
func TestT2Orders(t *testing.T) {
	t.Parallel()
	for _, c := range []struct {
		order, first int
		none, z      string
	}{
		{api.Lex, 0, "z; y^3 - 2; x - 1/2*y^2", "y^4 - y*z^3; x*z - y^2; x*y^2 - y*z^2; x^2 - y*z"}, {api.Block, 1, "z; y^3 - 2; x - 1/2*y^2", "y^4 - y*z^3; x*z - y^2; x*y^2 - y*z^2; x^2 - y*z"},
		{api.Grlex, 0, "z; y^2 - 2*x; x*y - 1; x^2 - 1/2*y", "x*z - y^2; x^2 - y*z; x*y^2 - y*z^2; y^4 - y*z^3"}, {api.Grevlex, 0, "z; y^2 - 2*x; x*y - 1; x^2 - 1/2*y", "y^2 - x*z; x^2 - y*z"},
		{api.Block, 2, "z; y^2 - 2*x; x*y - 1; x^2 - 1/2*y", "y^2 - x*z; x^2 - y*z"},
	} {
		r := api.Ring{Names: letters(3), Order: c.order, First: c.first}
		expectRadical(t, r, "y^2 - 2*x; x*y - 1 + z; z^2", none, c.none)
		expectRadical(t, r, "y^2*z - x*z^2; x^2 - y*z", z, c.z)
	}
}

// Of known components it is the intersection of their primes.
func TestT2Known(t *testing.T) {
	t.Parallel()
	s, tried, greater := noise(30), 0, 0
	for n := 1; n <= 5; n++ {
		for _, r := range rings(n) {
			for range 15 {
				u := s.part(n)
				f, l := s.knownIdeal(t, r, u, 1+s.below(3))
				want := [][]api.Term{one(n)}
				for _, x := range l {
					g, ok := met(r, want, x.p)
					if !ok {
						want = nil
						break
					}
					want = g
				}
				q := question{"Radical", r, s.anyForms(r, s.scaled(f, u)), u, nil}
				a := q.ask(3000)
				if a.e == api.ErrFuel || a.e == api.ErrLong || want == nil || len(l) == 0 {
					continue
				}
				tried++
				if a.e != api.OK || !areEqualLists(a.g, want) {
					t.Fatalf("T2: %v: %s, not %s", q, q.told(a), printedList(r, want))
				}
				if g, _, _ := basis.Reduced(r, q.f, api.MaxFuel); !areEqualLists(a.g, g) {
					greater++
				}
			}
		}
	}
	if tried < 180 || greater < 110 {
		t.Errorf("only %d samples, and %d that are greater than the ideal", tried, greater)
	}
}

// Infinitely many points: ErrPoint, at the first one of the other variables that has
// infinitely many values, behind the factors of those before it.
func TestT2Points(t *testing.T) {
	for _, c := range []struct {
		names int
		f     string
		u     []int
		calls int // of Factor
	}{
		{1, "", none, 0}, {2, "x^2 - 2", none, 1}, {2, "y^2 - 2", none, 0}, {2, "x*y", none, 0}, {3, "x^2 - 2; y^2 - x", none, 2}, {3, "x*z - 1", none, 0}, {3, "x*z - 1", z, 1}, {3, "y*z - 1", z, 0},
		{3, "x^2 - z", y, 0}, {3, "x - 1; y^2", none, 2},
	} {
		for _, r := range rings(c.names) {
			for _, q := range []question{{"Radical", r, parsedList(t, r, c.f), c.u, nil}, {"Components", r, parsedList(t, r, c.f), c.u, nil}} {
				a := q.words(api.MaxFuel)
				calls := c.calls
				if q.call == "Components" && calls > 0 { // the form is the first variable; then there is the radical
					calls++
				}
				if a.fault != "number of elements" || a.calls != calls {
					t.Errorf("T2: %v: %v", q, a)
				}
				expectSoon(t, q, len(a.places), api.ErrPoint)
			}
		}
	}
}

// The whole ring, told by a number, by polynomials whose basis is 1, and such as are
// whole only when contracted.
func TestWhole(t *testing.T) {
	t.Parallel()
	for n := 1; n <= 5; n++ {
		for k, u := range parts(n) {
			for _, r := range []api.Ring{rings(n)[k%len(rings(n))], rings(n)[(k/2+1)%len(rings(n))]} {
				last := r.Names[n-1]
				texts := []string{"1", "-5/7", "3; 4", "0; 2", last + "; " + last + " + 1", last + "^2 + 1; " + last, "0; " + last + "; 1", r.Names[0] + "; " + last + " - 1; " + last + " + " + r.Names[0]}
				if len(u) > 0 {
					name := r.Names[u[len(u)-1]]
					texts = append(texts, name, name+"^2 - 3", r.Names[0]+"^2; "+name+" + 7", r.Names[0]+"*"+name+"; "+name+"^2")
				}
				for _, text := range texts {
					for _, q := range eachCall(r, parsedList(t, r, text), u) {
						a := q.words(api.MaxFuel)
						if a.fault != "whole" || a.bases != 3 {
							t.Errorf("%v: %v", q, a)
						}
						expectSoon(t, q, len(a.places), api.ErrWhole)
					}
				}
			}
		}
	}
}

// Elements that are 0, alone and among others, count for nothing but for themselves.
func TestZeros(t *testing.T) {
	t.Parallel()
	s := noise(31)
	for n := 1; n <= 5; n++ {
		for _, r := range rings(n) {
			for range 2 {
				u := s.part(n)
				f := termsOf(r, s.sampleIdeal(t, r, u))
				for _, q := range eachCall(r, f, u) {
					want := q.ask(1500)
					for k, zero := range zeros(n) {
						q.f = slices.Insert(slices.Clone(f), k%(len(f)+1), zero)
						if a := q.ask(1500); !areSameReplies(a, want) {
							t.Fatalf("%v: %s, not %s", q, q.told(a), q.told(want))
						}
					}
				}
			}
		}
	}
}
