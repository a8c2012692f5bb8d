package reduce_test

import (
	"testing"

	"primrose/api"
	"primrose/reduce"
)

// expectFuel holds a division against the words with each amount of fuel around
// what it needs.
func expectFuel(t *testing.T, r api.Ring, p []api.Term, l [][]api.Term) int {
	t.Helper()
	steps := expectDivided(t, r, p, l)
	enough := divided(r, sumOf(p), sumsOf(l), api.MaxFuel)
	if enough.e != api.OK {
		t.Fatalf("O1: %s by %s: %d", printed(r, p), printedList(r, l), enough.e)
	}
	for _, fuel := range []int{0, 1, steps / 2, steps - 2, steps - 1, steps, steps + 1, 2 * steps, api.MaxFuel - 1, api.MaxFuel} {
		switch {
		case fuel < 0:
		case fuel < steps:
			expectError(t, r, p, l, fuel, api.ErrFuel)
		default:
			enough.left = fuel - steps
			expectAnswer(t, r, p, l, fuel, enough)
		}
	}
	return steps
}

func TestO1Fuel(t *testing.T) {
	for _, r := range rings(2) {
		for _, x := range []struct {
			p, l  string
			steps int
		}{
			{"0", "", 0},
			{"0", "x; 1", 0},
			{"x^2 + y", "", 0},
			{"x", "x", 1},
			{"x", "x - 1", 1},
			{"x", "x - 1; 1", 2},
			{"x + y", "1", 2},
			{"x^9 + y^9", "x; y", 2},
			{"x^9 + y^9", "x - 1; y - 1", 18},
			{"x^3*y^3", "x - 1; y - 1", 6},
			// Terms that go to the remainder are no steps, wherever they stand.
			{"x^2 + x*y + y^2 + x + y + 1", "x^3", 0},
			{"x^2 + x*y + y^2 + x + y + 1", "1", 6},
			{"x^2 + x*y + y^2 + x + y + 1", "x^2 - 5; x^9", 1},
			{"x^2 + x*y + y^2 + x + y + 1", "x*y - 5", 1},
			{"x^2 + x*y + y^2 + x + y + 1", "y^2 - 5", 1},
			{"x^2 + x*y + y^2 + x + y + 1", "x*y; y^2", 2},
			{"x^2*y^2 + x + 1", "x*y + 7", 2},
			// What cancels takes no step.
			{"x^2 - x", "x - 1", 1},
			{"x^2*y + x*y + x - y - 1", "x*y - 1; x; y; 1", 4},
		} {
			if steps := expectFuel(t, r, parsed(t, r, x.p), parsedList(t, r, x.l)); steps != x.steps {
				t.Errorf("O1: %s by %s in %v takes %d steps, not %d", x.p, x.l, r, steps, x.steps)
			}
		}
	}
}

func TestO1FuelOfSamples(t *testing.T) {
	s := noise(8)
	for _, r := range allRings() {
		n := len(r.Names)
		for k := range 25 {
			l := s.samples(1+k%4, n, 4, 3, 4)
			expectFuel(t, r, s.anyForm(r, s.multiple(n, l, 3)), s.anyForms(r, l))
		}
	}
}

// A step that can't be taken is none: its multiple may be too great.
func TestO1FuelBeforeLimit(t *testing.T) {
	r := lex(2)
	for _, x := range []struct {
		p, l  string
		steps int // ahead of the multiple that is too great
	}{
		{"x*y^65536", "x - y", 0},
		{"x*y^65535", "x - y^2", 0},
		{"x^2*y^65535", "x - y", 1},
		{"x^2 + x*y^65536", "x^2 - y; x - y", 1},
		{"x^5 + x*y^65536", "x^4 - 1; x - y", 1},
		{"x^5*y^65533", "x - y", 3},
	} {
		p, l := parsed(t, r, x.p), parsedList(t, r, x.l)
		for fuel := range 9 {
			want := api.ErrFuel
			if fuel > x.steps {
				want = api.ErrLong
			}
			expectError(t, r, p, l, fuel, want)
			if a := divided(r, sumOf(p), sumsOf(l), fuel); a.e != want {
				t.Errorf("the words say %d", a.e)
			}
		}
		expectError(t, r, p, l, api.MaxFuel, api.ErrLong)
	}
}

// A division of exactly MaxFuel steps, and one of a step more.
func TestO2AllFuel(t *testing.T) {
	r := lex(2)
	p := sum{}
	for k := range api.MaxFuel / limit {
		p = plus(p, times(power(0, limit), power(1, k)))
	}
	l := parsedList(t, r, "x - 1")
	for _, x := range []struct {
		more sum
		want api.Errno
	}{{sum{}, api.OK}, {times(power(0, 1), power(1, api.MaxFuel/limit)), api.ErrFuel}} {
		t.Run("", func(t *testing.T) {
			t.Parallel()
			rest, left, e := reduce.Rem(r, plus(p, x.more).terms(r), l, api.MaxFuel)
			want := sum{}
			for k := range p {
				want.add(key{0, k[1]}, p[k])
			}
			if x.want != api.OK {
				want = nil
			}
			if e != x.want || left != 0 || !isForm(r, rest, want) {
				t.Errorf("O2: %s, %d, %d, not %d", printed(r, rest), left, e, x.want)
			}
		})
	}
}
