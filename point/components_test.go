package point_test

import (
	"slices"
	"strings"
	"testing"

	"primrose/api"
)

// toldComponents has slashes between components, and behind Q a bar and P, if these
// differ.
func toldComponents(r api.Ring, l []api.Component) string {
	var all []string
	for _, x := range l {
		text := printedList(r, x.Q)
		if p := printedList(r, x.P); p != text {
			text += " | " + p
		}
		all = append(all, text)
	}
	return strings.Join(all, " / ")
}

// expectComponents expects an answer of Components, with the fuel of the ends of all
// bases. It returns the places at which attempts fail.
func expectComponents(t *testing.T, r api.Ring, f string, u []int, want string) (failed []int, steps int) {
	t.Helper()
	q := question{"Components", r, parsedList(t, r, f), u, nil}
	if a := q.ask(api.MaxFuel); a.e != api.OK || toldComponents(r, a.l) != want {
		t.Errorf("T3: %v: %s, error %d, not %s", q, toldComponents(r, a.l), a.e, want)
	}
	return q.words(api.MaxFuel).failed, expectEnds(t, q)
}

func TestT3Examples(t *testing.T) {
	t.Parallel()
	for _, c := range []struct {
		names  int
		f      string
		u      []int
		want   string
		failed []int
		steps  int
	}{
		// One component, its own prime, and one that is not.
		{1, "x", none, "x", nil, 15}, {1, "x^2 - 2", none, "x^2 - 2", nil, 17}, {1, "x^3", none, "x^3 | x", nil, 19}, {1, "x^4 - 4*x^2 + 4", none, "x^4 - 4*x^2 + 4 | x^2 - 2", nil, 27},
		{2, "x - 1; y + 2", none, "y + 2; x - 1", nil, 51}, {2, "x^2; y", none, "y; x^2 | y; x", nil, 53}, {2, "x^2; x*y; y^2", none, "y^2; x*y; x^2 | y; x", nil, 106}, {2, "x; y^3", none, "y^3; x | y; x", nil, 53},
		{2, "x^2 - y", y, "x^2 - y", nil, 17}, {2, "x^2 - y", x, "x^2 - y", nil, 17}, {2, "x*y - 1", y, "x*y - 1", nil, 30}, {2, "x^2*y^2 - 2*x*y + 1", y, "x^2*y^2 - 2*x*y + 1 | x*y - 1", nil, 80},
		{3, "x^2*y - z", yz, "x^2*y - z", nil, 34}, {3, "x^2 - y; y^2 - z", z, "y^2 - z; x^2 - y", nil, 73},
		// In the order of the factors: the fewer terms, and then the lesser coefficients first.
		{1, "x^2 - 1", none, "x - 1 / x + 1", nil, 31}, {1, "x^3 - x", none, "x / x - 1 / x + 1", nil, 46}, {1, "(x^2 + x + 1)*(x + 5)*(x^2 + 2)*(2*x - 1)*x", none, "x / x + 5 / x - 1/2 / x^2 + 2 / x^2 + x + 1", nil, 137},
		{2, "x^2 - 1; y", none, "y; x - 1 / y; x + 1", nil, 96}, {2, "(x - y)*(x + y)", y, "x - y / x + y", nil, 31}, {2, "(x - y)*(x + y)*(x - 1)", y, "x - 1 / x - y / x + y", nil, 56},
		{2, "(x - y^2)*(x + y)", y, "x + y / x - y^2", nil, 34}, {2, "(x - y^2)*(x + y)", x, "x + y / x - y^2", nil, 36},
		// Multiplicities.
		{1, "x^3 - x^2", none, "x^2 | x / x - 1", nil, 33}, {1, "(x - 1)^2*(x + 2)^3", none, "x^2 - 2*x + 1 | x - 1 / x^3 + 6*x^2 + 12*x + 8 | x + 2", nil, 63},
		{2, "x^2 - x; y^2", none, "y^2; x | y; x / y^2; x - 1 | y; x - 1", nil, 97}, {2, "x^3 - x^2; y^2 - x*y; y^3", none, "y^3; x*y - y^2; x^2 | y; x / y; x - 1", nil, 296}, {2, "(x - y)^2*(x + y)", y, "x^2 - 2*x*y + y^2 | x - y / x + y", nil, 41},
		// What is contracted away counts for nothing.
		{2, "x*y; x^2", y, "x", nil, 21}, {2, "(x^2 - 1)*y^2", y, "x - 1 / x + 1", nil, 34}, {2, "x^2*y^2 - y^2", x, "y^2 | y", nil, 20}, {3, "x^2*z; y^3*z - y*z", z, "y; x^2 | y; x / y - 1; x^2 | y - 1; x / y + 1; x^2 | y + 1; x", []int{0}, 435},
		// The second form tells the points apart: the first one fails at once, or later.
		{2, "x; y^2 - y", none, "y; x / y - 1; x", []int{0}, 161}, {2, "x^2; y^2 - y", none, "y; x^2 | y; x / y - 1; x^2 | y - 1; x", []int{0}, 247}, {2, "x^2 - 2; y^2 - 3", none, "y^2 - 3; x^2 - 2", []int{0}, 134},
		{2, "x^2 - x; x*y; y^2 - y", none, "y; x / y - 1; x / y; x - 1", []int{0, 1}, 513}, {2, "x^2 - x; x*y - y; y^2 - y", none, "y; x / y - 1; x - 1 / y; x - 1", []int{1}, 419},
		{2, "x^3 - x; x*y + y; y^2 - y", none, "y; x / y - 1; x + 1 / y; x - 1 / y; x + 1", []int{2, 0, 1}, 885}, {2, "x*y - 2*y; x^2 - 2*x; y^2 - 2*y", none, "y; x / y - 2; x - 2 / y; x - 2", []int{1}, 419},
		// Later ones.
		{2, "x^2 - 2; y^2 - 2", none, "y^2 - 2; x - y / y^2 - 2; x + y", []int{0, 0}, 324}, {3, "x^2 - z; y^2 - z", z, "y^2 - z; x - y / y^2 - z; x + y", []int{0, 0}, 345},
		{2, "y^2 - y; x*y + y; x^2 + x", none, "y; x / y - 1; x + 1 / y; x + 1", []int{1, 0}, 517}, {2, "x^2 - x; y^2 - y", none, "y; x / y - 1; x - 1 / y - 1; x / y; x - 1", []int{0, 2}, 502},
		{2, "x^2 - 2; y^2 - 8", none, "y^2 - 8; x - 1/2*y / y^2 - 8; x + 1/2*y", []int{0}, 252}, {2, "x^2 - 8; y^2 - 2", none, "y^2 - 2; x - 2*y / y^2 - 2; x + 2*y", []int{0}, 248},
		// With three other variables the powers of k count.
		{3, "x; y; z^2 - z", none, "z; y; x / z - 1; y; x", []int{0}, 339}, {3, "x; y^2 - y; z^2 - z", none, "z; y; x / z - 1; y - 1; x / z - 1; y; x / z; y - 1; x", []int{0, 2}, 1031},
		{3, "x^2 - 2; y^2 - 3; z - x*y", none, "z^2 - 6; y^2 - 3; x - 1/3*y*z", []int{0}, 1052}, {3, "x; y - 4*z; z^2 - z", none, "z; y; x / z - 1; y - 4; x", []int{0}, 359},
		{3, "x + y; y^2 - y; z", none, "z; y; x / z; y - 1; x + 1", nil, 236}, {3, "x + 2*y; y - z; z^2 - z", none, "z; y; x / z - 1; y - 1; x + 2", nil, 243},
		{3, "x; y + z; z^2 - z", none, "z; y; x / z - 1; y + 1; x", []int{0, 0}, 480}, {3, "x; y^3 - 3*y^2 + 2*y; 2*z - y^2 + 3*y", none, "z; y; x / z + 1; y - 2; x / z + 1; y - 1; x", []int{0, 0, 0}, 1129},
		// So they do with four, where the last one is k * k * k.
		{4, "x; y; z^3 - 3*z^2 + 2*z; 2*u - z^2 + 3*z", none, "u; z; y; x / u + 1; z - 2; y; x / u + 1; z - 1; y; x", []int{0, 0, 0}, 1696},
		// u at the beginning, between others, and of several variables.
		{3, "y^2 - x; z^2 - x", x, "y - z; x - z^2 / y + z; x - z^2", []int{0, 0}, 374}, {3, "x^2 - y; z^2 - 4*y", y, "y - 1/4*z^2; x - 1/2*z / y - 1/4*z^2; x + 1/2*z", []int{0}, 302},
		{4, "z*x - 2*u; x*y^2 - x*u", []int{2, 3}, "y^2 - u; x*z - 2*u", []int{0}, 181},
	} {
		failed, steps := expectComponents(t, lex(c.names), c.f, c.u, c.want)
		if !slices.Equal(failed, c.failed) || steps != c.steps {
			t.Errorf("T3: %s by %v takes %d steps, not %d, and fails at %v, not %v", c.f, c.u, steps, c.steps, failed, c.failed)
		}
	}
}

// told is a component as a text.
func told(r api.Ring, q, p [][]api.Term) string {
	return printedList(r, q) + " | " + printedList(r, p)
}

// Known components are found again, each once.
func TestT3Known(t *testing.T) {
	t.Parallel()
	s, tried, several := noise(40), 0, 0
	for n := 1; n <= 5; n++ {
		for _, r := range rings(n) {
			for range 18 {
				u := s.part(n)
				f, l := s.knownIdeal(t, r, u, 1+s.below(4))
				q := question{"Components", r, s.anyForms(r, s.scaled(f, u)), u, nil}
				a := q.ask(5000)
				if a.e == api.ErrFuel || a.e == api.ErrLong || len(l) == 0 {
					continue
				}
				var found, want []string
				for _, x := range a.l {
					found = append(found, told(r, x.Q, x.P))
				}
				for _, x := range l {
					want = append(want, told(r, x.q, x.p))
				}
				tried++
				several += len(l) / 2
				slices.Sort(found)
				slices.Sort(want)
				if a.e != api.OK || !slices.Equal(found, want) {
					t.Fatalf("T3: %v: %s, error %d, not %s", q, strings.Join(found, " / "), a.e, strings.Join(want, " / "))
				}
			}
		}
	}
	if tried < 200 || several < 100 {
		t.Errorf("only %d samples, and %d with several components", tried, several)
	}
}

// lines are twelve lines through the origin of the plane, times the roots of -14: x is
// so many times -2*y. The form x + k*y makes two of them, or one line's two points, the
// same just if k is a sum of two of the numbers.
func lines(t *testing.T, r api.Ring, numbers []int) [][]api.Term {
	product := constant(rat(1, 1))
	for _, n := range numbers {
		product = times(product, plus(power(0, 1), times(power(1, 1), constant(rat(int64(2*n), 1)))))
	}
	return append(parsedList(t, r, "y^2 + 14"), product.terms(r))
}

// The sums are all integers from 0 to 48: so the last form is the first one that tells
// the points apart.
func TestT3LastAttempt(t *testing.T) {
	t.Parallel()
	r := lex(2)
	q := question{"Components", r, lines(t, r, []int{0, 1, 3, 5, 7, 9, 11, 13, 15, 16, 31, 32}), nil, nil}
	a := expectWords(t, q, api.MaxFuel)
	want := "x + 62*y / x + 64*y / x + 32*y / x + 30*y / x + 26*y / x + 22*y / x + 18*y / x + 14*y / x + 10*y / x + 6*y / x + 2*y / x"
	if text := toldComponents(r, q.asReply(a).l); text != "y^2 + 14; "+strings.ReplaceAll(want, "/ ", "/ y^2 + 14; ") || len(a.failed) != 49 {
		t.Errorf("T3: %s, behind %d", text, len(a.failed))
	}
	expectNothing(t, q, len(a.places)-1, api.ErrFuel)
	a.left = 0
	expect(t, q, len(a.places), a)
}

// The sums are all integers from 0 to 49: so all attempts fail. The next one would not.
func TestT3NoAttempt(t *testing.T) {
	t.Parallel()
	r := lex(2)
	q := question{"Components", r, lines(t, r, []int{0, 1, 3, 5, 7, 9, 11, 13, 15, 16, 32, 33}), nil, nil}
	a := expectWords(t, q, api.MaxFuel)
	if a.e != api.ErrLong || a.fault != "attempts" || len(a.failed) != 50 {
		t.Errorf("T3: %d, %s, behind %d", a.e, a.fault, len(a.failed))
	}
	expectNothing(t, q, len(a.places)-1, api.ErrFuel)
	expectNothing(t, q, len(a.places), api.ErrLong)
}
