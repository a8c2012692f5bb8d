package primary_test

import (
	"slices"
	"testing"

	"primrose/api"
	"primrose/ideal"
	"primrose/several"
)

// enough is the fuel for most samples.
const enough = 1500

// asked is what a call answers, and whether it does: nothing but the fuel may be missing,
// but for polynomials with too many factors.
func asked(t *testing.T, q question) (a reply, ok bool) {
	t.Helper()
	a = q.ask(enough)
	if !slices.Contains([]api.Errno{api.OK, api.ErrFuel, api.ErrLong}, a.e) {
		t.Fatalf("%v: %d", q, a.e)
	}
	return a, a.e == api.OK
}

// expectOneComponent expects that an ideal has just one component, if that takes few
// steps.
func expectOneComponent(t *testing.T, r api.Ring, f [][]api.Term, want api.Component) {
	t.Helper()
	a, ok := asked(t, question{"Decompose", r, f})
	if ok && (len(a.l) != 1 || !areSame(a.l[0].Q, want.Q) || !areSame(a.l[0].P, want.P)) {
		t.Fatalf("U1: %s in %v: %s, not %s", printedList(r, f), r, printedComponents(r, a.l), printedComponents(r, []api.Component{want}))
	}
}

// Each Q has one component, itself, with its P, and so has each P; the Ps are different;
// the intersection of the Qs is the ideal, and without any one of them it is greater.
func TestU1Theorem(t *testing.T) {
	t.Parallel()
	s, tried, several := noise(90), 0, 0
	for n := 1; n <= 5; n++ {
		for _, r := range rings(n) {
			for range 12 {
				q := question{"Decompose", r, s.anyForms(s.sampleIdeal(t, r))}
				a, ok := asked(t, q)
				if !ok {
					continue
				}
				tried++
				several += min(1, len(a.l)/2)
				for k, x := range a.l {
					expectOneComponent(t, r, x.Q, x)
					expectOneComponent(t, r, x.P, api.Component{Q: x.P, P: x.P})
					if slices.ContainsFunc(a.l[:k], func(y api.Component) bool { return areSame(x.P, y.P) }) {
						t.Fatalf("U1: %v: %s twice", q, printedList(r, x.P))
					}
					if g, ok := metAll(r, qs(slices.Concat(a.l[:k], a.l[k+1:]))); ok && isSubset(t, r, g, q.f) {
						t.Fatalf("U1: %v: %s, of which %d is redundant", q, q.told(a), k)
					}
				}
				if g, ok := metAll(r, qs(a.l)); ok && !areSame(g, reduced(t, r, q.f)) {
					t.Fatalf("U1: %v: %s, whose intersection is %s", q, q.told(a), printedList(r, g))
				}
			}
		}
	}
	if tried < 220 || several < 60 {
		t.Errorf("only %d samples, and %d with several components", tried, several)
	}
}

// If a product is in Q, one factor is in Q, or the other one is in P; if it is in P, one
// factor is: so nothing is in the quotient of Q or P by what is not in P.
func TestU5Products(t *testing.T) {
	t.Parallel()
	s, factors, quotients := noise(91), 0, 0
	for n := 1; n <= 4; n++ {
		for _, r := range rings(n) {
			for range 10 {
				a, ok := asked(t, question{"Decompose", r, s.anyForms(s.sampleIdeal(t, r))})
				if !ok {
					continue
				}
				for k, x := range a.l {
					for _, p := range slices.Concat(x.Q, x.P) {
						factors += expectFactor(t, r, p, x)
					}
					others := [][]api.Term{s.sample(r, 2, 2), s.sample(r, 1, 2)}
					for _, y := range slices.Concat(a.l[:k], a.l[k+1:]) {
						others = append(others, y.P...)
					}
					for _, p := range others {
						if isSubset(t, r, [][]api.Term{p}, x.P) {
							continue
						}
						for _, g := range [][][]api.Term{x.Q, x.P} {
							same, _, e := ideal.Quotient(r, g, [][]api.Term{p}, 300)
							if e != api.OK {
								continue
							}
							quotients++
							if !areSame(same, g) {
								t.Fatalf("U5: %s by %s in %v is %s", printedList(r, g), printed(r, p), r, printedList(r, same))
							}
						}
					}
				}
			}
		}
	}
	if factors < 250 || quotients < 300 {
		t.Errorf("only %d factors, and %d quotients", factors, quotients)
	}
}

// expectFactor expects of the factors of a polynomial of a component that the one or the
// other is in it as it has to be. It returns how many there are.
func expectFactor(t *testing.T, r api.Ring, p []api.Term, x api.Component) (number int) {
	t.Helper()
	_, l, e := several.Factor(r, p)
	if e != api.OK {
		return 0
	}
	isIn := func(p []api.Term, g [][]api.Term) bool { return isSubset(t, r, [][]api.Term{p}, g) }
	inQ := isIn(p, x.Q)
	for _, y := range l {
		other, ok, _ := several.Divide(r, p, y.P)
		switch {
		case !ok, !isIn(y.P, x.P) && !isIn(other, x.P), inQ && !isIn(y.P, x.Q) && !isIn(other, x.P), inQ && !isIn(other, x.Q) && !isIn(y.P, x.P):
			t.Fatalf("U5: %s in %v: %s times %s", printedComponents(r, []api.Component{x}), r, printed(r, y.P), printed(r, other))
		}
		number++
	}
	return number
}

// hasPower reports whether a power of a polynomial is in an ideal, if that takes few
// steps.
func hasPower(r api.Ring, p []api.Term, f [][]api.Term) (is, ok bool) {
	g, _, _, e := ideal.Saturate(r, f, p, enough)
	return len(g) == 1 && isSame(g[0], number(r, 1)), e == api.OK
}

// The radical contains the ideal, of each of its elements a power is in the ideal, and it
// is its own radical.
func TestU5Radical(t *testing.T) {
	t.Parallel()
	s, tried, powers, greater := noise(92), 0, 0, 0
	for n := 1; n <= 5; n++ {
		for _, r := range rings(n) {
			for range 14 {
				q := question{"Radical", r, s.anyForms(s.sampleIdeal(t, r))}
				a, ok := asked(t, q)
				if !ok {
					continue
				}
				tried++
				if !isSubset(t, r, q.f, a.g) {
					t.Fatalf("U5: %v: %s", q, q.told(a))
				}
				if !areSame(reduced(t, r, q.f), a.g) {
					greater++
				}
				for _, p := range a.g {
					switch is, ok := hasPower(r, p, q.f); {
					case !ok:
					case !is:
						t.Fatalf("U3: %v: %s, without a power", q, printed(r, p))
					default:
						powers++
					}
				}
				for _, call := range []string{"Radical", "Hull"} {
					h, again, ok := a.g, reply{}, false
					if again, ok = asked(t, question{call, r, h}); ok && call == "Radical" && !areSame(again.g, h) {
						t.Fatalf("U5: %v: %s, and then %s", q, printedList(r, h), printedList(r, again.g))
					}
					if ok && !isSubset(t, r, h, again.g) {
						t.Fatalf("U4: %v: %s is not in %s", q, printedList(r, h), printedList(r, again.g))
					}
				}
			}
		}
	}
	if tried < 220 || powers < 300 || greater < 70 {
		t.Errorf("only %d samples, %d powers, and %d that are greater than the ideal", tried, powers, greater)
	}
}

// Of the primes, the minimal primes, the radical and the hull only the ideal counts: not
// its polynomials, their order, nor what is added of their multiples. Of the components
// those with minimal primes are the same.
func TestU5SameIdeals(t *testing.T) {
	t.Parallel()
	s, tried := noise(93), 0
	for n := 1; n <= 5; n++ {
		for _, r := range rings(n) {
			for range 8 {
				f := s.sampleIdeal(t, r)
				more := slices.Clone(f)
				for _, p := range f {
					more = append(more, times(r, p, s.sample(r, 2, 2)))
				}
				for _, call := range calls()[1:] {
					want, ok := asked(t, question{call, r, f})
					if !ok {
						continue
					}
					for _, h := range [][][]api.Term{reduced(t, r, f), s.shuffled(more)} {
						a, ok := asked(t, question{call, r, s.anyForms(h)})
						if !ok {
							continue
						}
						tried++
						a.left = want.left
						if !areSameReplies(a, want) {
							t.Fatalf("U5: %v: %s, but %s of %s", question{call, r, f}, want.printed(r), a.printed(r), printedList(r, h))
						}
					}
				}
			}
		}
	}
	if tried < 1000 {
		t.Errorf("only %d samples", tried)
	}
}

// The calls agree: the minimal primes are those of all primes that contain no other one,
// the radical is their intersection, the primes are the Ps of the components, and the hull
// is the intersection of those Qs whose Ps have the greatest dimension.
func TestCallsAgree(t *testing.T) {
	t.Parallel()
	s, tried, embedded := noise(94), 0, 0
	for n := 1; n <= 5; n++ {
		for _, r := range rings(n) {
			for range 12 {
				f := s.anyForms(s.sampleIdeal(t, r))
				var a [5]reply
				all := true
				for k, call := range calls() {
					var ok bool
					a[k], ok = asked(t, question{call, r, f})
					all = all && ok
				}
				if !all {
					continue
				}
				tried++
				var minimal, hull [][][]api.Term
				most := -1
				for _, x := range a[0].l {
					most = max(most, dimension(t, r, x.P))
				}
				for k, x := range a[0].l {
					if isMinimal(t, r, a[0].l, k) {
						minimal = append(minimal, x.P)
					}
					if dimension(t, r, x.P) == most {
						hull = append(hull, x.Q)
					}
				}
				embedded += min(1, len(a[0].l)-len(minimal))
				if !slices.EqualFunc(a[1].p, ps(a[0].l), areSame) || !slices.EqualFunc(a[2].p, minimal, areSame) {
					t.Fatalf("U2: %s in %v: %s, %s, %s", printedList(r, f), r, a[0].printed(r), a[1].printed(r), a[2].printed(r))
				}
				if g, ok := metAll(r, minimal); ok && !areSame(g, a[3].g) {
					t.Fatalf("U3: %s in %v: %s, not %s", printedList(r, f), r, a[3].printed(r), printedList(r, g))
				}
				if g, ok := metAll(r, hull); ok && !areSame(g, a[4].g) {
					t.Fatalf("U4: %s in %v: %s, not %s", printedList(r, f), r, a[4].printed(r), printedList(r, g))
				}
			}
		}
	}
	if tried < 200 || embedded < 5 {
		t.Errorf("only %d samples, and %d with embedded primes", tried, embedded)
	}
}

// Chains of primes, each of which contains the ones before it: only the first is minimal.
// What else is divided is told by the steps, which are those of the words.
func TestU2Chains(t *testing.T) {
	t.Parallel()
	for _, x := range []struct{ f, primes, least string }{
		{"x^2*y; x*y^2", "y / x / y; x", "y / x"},
		{"y*z; x*y^2", "y / z; y / z; x", "y / z; x"}, // z is divided by the last one, too, for the one in the middle
		{"x^2; x*y*z", "x / z; x / y; x", "x"},
		{"x^3; x^2*y; x*y^2*z", "x / z; x / y; x", "x"},
		{"x^2; x*y^2; x*y*z", "x / y; x / z; y; x", "x"},
		{"x^3; x^2*y; x*y^2; x^2*z^2; x*y*z", "x / y; x / z; y; x", "x"},
		{"x^2*z; x*y*z; y*z^2", "z / z; x / y; x", "z / y; x"},
		{"x*y*z; x^2*y; y^2*z", "y / z; x / y; x", "y / z; x"},
	} {
		r := lex(3)
		f := parsedList(t, r, x.f)
		all, _ := expectWords(t, question{"Primes", r, f}, api.MaxFuel)
		least, _ := expectWords(t, question{"Least", r, f}, api.MaxFuel)
		if all.printed(r) != x.primes || least.printed(r) != x.least {
			t.Errorf("U2: %s: %s and %s, not %s and %s", x.f, all.printed(r), least.printed(r), x.primes, x.least)
		}
	}
}
