package primary_test

import (
	"slices"
	"testing"

	"primrose/api"
	"primrose/stair"
)

// What the components are, s of each half, the places of the components that are removed,
// and all steps.
func TestU1Examples(t *testing.T) {
	t.Parallel()
	for _, x := range []struct {
		names   int
		f, want string
		powers  []int
		removed []int
		steps   int
	}{
		{1, "x", "x", []int{0}, nil, 15},
		{1, "x^2 - 2", "x^2 - 2", []int{0}, nil, 17},
		{1, "x^3", "x^3 | x", []int{0}, nil, 19},
		{1, "x^3 - x^2", "x^2 | x / x - 1", []int{0}, nil, 44},
		{1, "x^3 - x", "x / x - 1 / x + 1", []int{0}, nil, 97},
		{1, "(x^2 + 1)*(2*x - 3)^2*x", "x / x^2 - 3*x + 9/4 | x - 3/2 / x^2 + 1", []int{0}, nil, 148},
		{1, "x^4 - 5*x^2 + 6; 3*x^3 - 6*x", "x^2 - 2", []int{0}, nil, 21},
		{2, "x", "x", []int{0}, nil, 15},
		{2, "x^2 + 1", "x^2 + 1", []int{0}, nil, 17},
		{2, "x*y", "y / x", []int{1, 0}, nil, 45},
		{2, "x^2; x*y", "x / y; x^2 | y; x", []int{1, 0}, nil, 103},
		{2, "x^2 - 1; y", "y; x - 1 / y; x + 1", []int{0}, nil, 133},
		{2, "x^2*y", "y / x^2 | x", []int{1, 0}, nil, 47},
		{2, "x^2 - y^2", "x - y / x + y", []int{0}, nil, 43},
		{2, "x^4 + 4*y^4", "x^2 - 2*x*y + 2*y^2 / x^2 + 2*x*y + 2*y^2", []int{0}, nil, 55},
		{2, "x^2; x*y; y^2", "y^2; x*y; x^2 | y; x", []int{0}, nil, 109},
		{2, "x^2 - 2; y^2 - 2", "y^2 - 2; x - y / y^2 - 2; x + y", []int{0}, nil, 367},
		{2, "x; y^2 - y", "y; x / y - 1; x", []int{0}, nil, 193},
		{2, "x^3*y; x^2*y^2", "y / x^2 | x / y^3; x^2*y^2; x^3*y; x^5 | y; x", []int{1, 1, 0}, nil, 379},
		{2, "x^2*y - x*y", "y / x / x - 1", []int{1, 0}, nil, 87},
		{2, "x^2 - x; x*y", "x / y; x - 1", []int{1, 0}, []int{1}, 199},
		{2, "y^2; x*y - y", "y / y^2; x - 1 | y; x - 1", []int{1, 0}, nil, 114},
		{2, "2*x^2 - 1/3*x; x*y", "x / y; x - 1/6", []int{1, 0}, []int{1}, 199},
		{2, "x*y^2 - x; x^2*y - y", "y; x / y - 1; x - 1 / y - 1; x + 1 / y + 1; x - 1 / y + 1; x + 1", []int{0}, nil, 2411},
		{2, "x^2*y; y^3", "y / y^3; x^2 | y; x", []int{1, 0}, nil, 106},
		{3, "x*y; x*z", "x / z; y", []int{1, 1, 1, 0}, []int{3, 2}, 330},
		{3, "x*y*z", "z / y / x", []int{1, 1, 0}, nil, 85},
		{3, "x^2; x*y; x*z", "x / z; y; x^2 | z; y; x", []int{1, 1, 1, 0}, []int{2, 1}, 498},
		{3, "x*y; y*z; x*z", "z; y / z; x / y; x", []int{1, 1, 0}, nil, 323},
		{3, "x*z - y^2; x^3 - y*z", "y; x / y^5 - z^4; x*z - y^2; x*y^3 - z^3; x^2*y - z^2; x^3 - y*z", []int{0}, nil, 941},
		{3, "x^2*z - y^2", "x^2*z - y^2", []int{0}, nil, 30},
		{3, "x*y - z^2; x^2", "z^4; x*z^2; x*y - z^2; x^2 | z; x", []int{0}, nil, 200},
		{3, "x^2 - y^2*z", "x^2 - y^2*z", []int{0}, nil, 17},
		{3, "x^2*y; x*y^2*z", "y / x / z^2; x*z; x^2 | z; x / y^3; x*y^2; x^2*y; x^3 | y; x", []int{1, 1, 1, 1, 1, 0}, []int{5, 2}, 1703},
		{3, "x^2 - z; y^2 - z", "y^2 - z; x - y / y^2 - z; x + y", []int{0}, nil, 388},
		{3, "x*y*z^2 + x*z", "z / x / y*z + 1", []int{1, 1, 1, 1, 0}, []int{5, 4, 3}, 473},
		{3, "2*x^2*z - 2*x*y^2", "x / x*z - y^2", []int{1, 1, 0}, []int{2}, 142},
		{3, "3*x*z; 3*x*y + z", "z; y / z^2; x*z; x*y + 1/3*z; x^2 | z; x", []int{2, 0}, nil, 468},
		{3, "x^2*y*z^2; 3*x - 2*y*z^2", "z^6; x - 2/3*y*z^2 | z; x / y^3; x - 2/3*y*z^2 | y; x", []int{3, 0}, nil, 688},
		{3, "y^2*z + y*z; x*z^2", "z / z^2; y | z; y / z^2; y + 1 | z; y + 1 / y; x / y + 1; x", []int{1, 1, 1, 0}, []int{3}, 1336},
		{3, "x - y*z; y - x*z", "y; x / z - 1; x - y / z + 1; x + y", []int{1, 0}, nil, 539},
		{4, "x*z; x*u; y*z; y*u", "u; z / y; x", []int{1, 1, 1, 1, 1, 0}, []int{5, 4, 3, 2}, 1687},
		{4, "x*u - y*z; x^2; y^2", "y^2; x*u - y*z; x*y; x^2 | y; x / u^3; z*u; z^3; y*z^2; y^2; x*u - y*z; x*y*z; x^2 | u; z; y; x", []int{1, 1, 1, 0}, []int{2, 1}, 3660},
		{4, "x*u - y*z", "x*u - y*z", []int{0}, nil, 17},
		{4, "x^2; x*y; y^2; x*u - y*z", "y^2; x*u - y*z; x*y; x^2 | y; x", []int{0}, nil, 277},
	} {
		r := lex(x.names)
		q := question{"Decompose", r, parsedList(t, r, x.f)}
		a := q.ask(api.MaxFuel)
		if a.e != api.OK || a.printed(r) != x.want || api.MaxFuel-a.left != x.steps {
			t.Errorf("U1: %v: %s, not %s with %d", q, q.told(a), x.want, api.MaxFuel-x.steps)
		}
		if _, way := expectWords(t, q, api.MaxFuel); !slices.Equal(way.powers, x.powers) || !slices.Equal(way.removed, x.removed) {
			t.Errorf("U1: %v: %v and %v, not %v and %v", q, way.powers, way.removed, x.powers, x.removed)
		}
	}
}

// Results are in the order of r.
func TestU1Orders(t *testing.T) {
	t.Parallel()
	for _, x := range []struct {
		order, first int
		f, want      string
	}{} {
		r := api.Ring{Names: lex(3).Names, Order: x.order, First: x.first}
		q := question{"Decompose", r, parsedList(t, r, x.f)}
		if a := q.ask(api.MaxFuel); a.e != api.OK || a.printed(r) != x.want {
			t.Errorf("U1: %v: %s, not %s", q, q.told(a), x.want)
		}
		for _, call := range calls() {
			expectWords(t, question{call, r, q.f}, api.MaxFuel)
		}
	}
}

// isMinimal reports whether no other prime is contained in that of the component k.
func isMinimal(t *testing.T, r api.Ring, l []api.Component, k int) bool {
	t.Helper()
	for i, x := range l {
		if i != k && isSubset(t, r, x.P, l[k].P) {
			return false
		}
	}
	return true
}

// Known components are found again: those whose primes are minimal as they are, of the
// others the primes. The hull and the radical are those of the known ones, too.
func TestKnown(t *testing.T) {
	t.Parallel()
	s, tried, several, embedded := noise(40), 0, 0, 0
	for n := 1; n <= 5; n++ {
		for _, r := range rings(n) {
			for range 14 {
				f, known := s.knownIdeal(t, r, 1+s.below(3))
				q := question{"Decompose", r, s.anyForms(f)}
				a := q.ask(2000)
				if a.e != api.OK {
					if a.e != api.ErrFuel && a.e != api.ErrLong {
						t.Fatalf("U1: %v: %d", q, a.e)
					}
					continue
				}
				tried++
				several += min(1, len(known)/2)
				if got, want := printedSets(r, ps(a.l)), printedSets(r, ps(known)); !slices.Equal(got, want) {
					t.Fatalf("U1: %v: %v, not %v", q, got, want)
				}
				for k, x := range known {
					i := slices.IndexFunc(a.l, func(y api.Component) bool { return areSame(x.P, y.P) })
					if isMinimal(t, r, known, k) && !areSame(a.l[i].Q, x.Q) {
						t.Fatalf("U1: %v: %s, not %s", q, printedList(r, a.l[i].Q), printedList(r, x.Q))
					}
					if !isMinimal(t, r, known, k) {
						embedded++
					}
				}
				expectKnown(t, q, known)
			}
		}
	}
	if tried < 230 || several < 40 || embedded < 8 {
		t.Errorf("only %d samples, %d with several components, and %d embedded ones", tried, several, embedded)
	}
}

// printedSets are ideals as texts, without order.
func printedSets(r api.Ring, l [][][]api.Term) []string {
	var all []string
	for _, f := range l {
		all = append(all, printedList(r, f))
	}
	slices.Sort(all)
	return all
}

// expectKnown expects the minimal primes, the radical and the hull of known components.
func expectKnown(t *testing.T, q question, known []api.Component) {
	t.Helper()
	most := 0
	var minimal, hull [][][]api.Term
	for k, x := range known {
		if isMinimal(t, q.r, known, k) {
			minimal = append(minimal, x.P)
		}
		most = max(most, dimension(t, q.r, x.P))
	}
	for _, x := range known {
		if dimension(t, q.r, x.P) == most {
			hull = append(hull, x.Q)
		}
	}
	if a := (question{"Least", q.r, q.f}).ask(2500); a.e == api.OK && !slices.Equal(printedSets(q.r, a.p), printedSets(q.r, minimal)) {
		t.Fatalf("U2: %v: %v, not %v", q, a.printed(q.r), printedSets(q.r, minimal))
	}
	for call, l := range map[string][][][]api.Term{"Radical": minimal, "Hull": hull} {
		want, ok := metAll(q.r, l)
		if a := (question{call, q.r, q.f}).ask(2500); ok && a.e == api.OK && !areSame(a.g, want) {
			t.Fatalf("U3, U4: %s of %v: %s, not %s", call, q, a.printed(q.r), printedList(q.r, want))
		}
	}
}

func dimension(t *testing.T, r api.Ring, f [][]api.Term) int {
	t.Helper()
	dim, _, e := stair.Dim(r, f, api.MaxFuel)
	if e != api.OK {
		t.Fatalf("%s in %v: %d", printedList(r, f), r, e)
	}
	return dim
}
