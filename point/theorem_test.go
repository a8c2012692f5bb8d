package point_test

import (
	"slices"
	"testing"

	"primrose/api"
	"primrose/extend"
	"primrose/ideal"
	"primrose/several"
)

// enough is the fuel for most samples.
const enough = 1500

// asked is what a call answers, and whether it does: nothing but the fuel may be missing,
// but for points that are infinitely many or none, and polynomials with too many factors.
func asked(t *testing.T, q question) (a reply, ok bool) {
	t.Helper()
	a = q.ask(enough)
	if !slices.Contains([]api.Errno{api.OK, api.ErrFuel, api.ErrWhole, api.ErrPoint, api.ErrLong}, a.e) {
		t.Fatalf("%v: %d", q, a.e)
	}
	return a, a.e == api.OK
}

// isWithin reports whether the ideal of f is contained in that of h.
func isWithin(t *testing.T, r api.Ring, f, h [][]api.Term) bool {
	t.Helper()
	is, _, e := ideal.Subset(r, f, h, api.MaxFuel)
	if e != api.OK {
		t.Fatalf("%s and %s in %v: %d", printedList(r, f), printedList(r, h), r, e)
	}
	return is
}

// hasPower reports whether a power of a polynomial is in an ideal, if that takes few
// steps.
func hasPower(r api.Ring, p []api.Term, f [][]api.Term) (is, ok bool) {
	w := api.Ring{Names: append([]string{newName(r)}, r.Names...), Order: api.Grevlex}
	l := termsOf(w, []sum{minus(constant(rat(1, 1)), times(power(0, 1), widened(sumOf(p))))})
	for _, q := range f {
		l = append(l, widened(sumOf(q)).terms(w))
	}
	is, _, e := ideal.Member(w, one(len(w.Names)), l, enough)
	return is, e == api.OK
}

// The radical contains the ideal, and of each of its elements a power is in the
// contraction; it is its own radical.
func TestT4Radicals(t *testing.T) {
	t.Parallel()
	s, tried, powers, greater := noise(90), 0, 0, 0
	for n := 1; n <= 5; n++ {
		for _, r := range rings(n) {
			for range 14 {
				u := s.part(n)
				q := question{"Radical", r, s.anyForms(r, s.sampleIdeal(t, r, u)), u, nil}
				a, ok := asked(t, q)
				if !ok {
					continue
				}
				tried++
				g, _, e := contracted(q, api.MaxFuel)
				if e != api.OK || !isWithin(t, r, q.f, a.g) || !isWithin(t, r, g, a.g) {
					t.Fatalf("T4: %v: %s", q, q.told(a))
				}
				if !areEqualLists(g, a.g) {
					greater++
				}
				for _, p := range a.g {
					switch is, ok := hasPower(r, p, g); {
					case !ok:
					case !is:
						t.Fatalf("T2: %v: %s, without a power", q, printed(r, p))
					default:
						powers++
					}
				}
				if again, ok := asked(t, question{"Radical", r, a.g, u, nil}); ok && !areEqualLists(again.g, a.g) {
					t.Fatalf("T4: %v: %s, and then %s", q, q.told(a), q.told(again))
				}
			}
		}
	}
	if tried < 160 || powers < 250 || greater < 50 {
		t.Errorf("only %d samples, %d powers, and %d that are greater than the ideal", tried, powers, greater)
	}
}

// The intersection of the Qs is the contraction; each is in its P, which is its radical
// and another one for each; and each is its own contraction.
func TestT4Components(t *testing.T) {
	t.Parallel()
	s, tried, multiple := noise(91), 0, 0
	for n := 1; n <= 5; n++ {
		for _, r := range rings(n) {
			for range 14 {
				u := s.part(n)
				q := question{"Components", r, s.anyForms(r, s.sampleIdeal(t, r, u)), u, nil}
				a, ok := asked(t, q)
				if !ok {
					continue
				}
				tried++
				all := [][]api.Term{one(n)}
				for k, x := range a.l {
					if !isWithin(t, r, x.Q, x.P) {
						t.Fatalf("T4: %v: %s is not in %s", q, printedList(r, x.Q), printedList(r, x.P))
					}
					if p, ok := asked(t, question{"Radical", r, x.Q, u, nil}); ok && !areEqualLists(p.g, x.P) {
						t.Fatalf("T3: %v: %s is not the radical of %s", q, printedList(r, x.P), printedList(r, x.Q))
					}
					if g, _, e := extend.Contract(r, x.Q, u, enough); e == api.OK && !areEqualLists(g, x.Q) {
						t.Fatalf("T3: %v: %s is not contracted", q, printedList(r, x.Q))
					}
					for _, y := range a.l[:k] {
						if areEqualLists(x.P, y.P) {
							t.Fatalf("T3: %v: %s twice", q, printedList(r, x.P))
						}
					}
					all, ok = met(r, all, x.Q)
					if !ok {
						break
					}
				}
				g, _, e := contracted(q, api.MaxFuel)
				if e != api.OK || ok && !areEqualLists(all, g) {
					t.Fatalf("T4: %v: %s, not %s", q, printedList(r, all), printedList(r, g))
				}
				if ok && len(a.l) > 1 {
					multiple++
				}
			}
		}
	}
	if tried < 160 || multiple < 35 {
		t.Errorf("only %d samples, and %d with multiple components", tried, multiple)
	}
}

// If a product is in Q, one factor is in Q, or the other one is in P: so it is with the
// factors of Q's elements, and so nothing is in the quotient of Q by what is not in P.
func TestT4Products(t *testing.T) {
	t.Parallel()
	s, factors, quotients := noise(92), 0, 0
	for n := 1; n <= 4; n++ {
		for _, r := range rings(n) {
			for range 15 {
				u := s.part(n)
				q := question{"Components", r, s.anyForms(r, s.sampleIdeal(t, r, u)), u, nil}
				a, ok := asked(t, q)
				if !ok {
					continue
				}
				for k, x := range a.l {
					for _, p := range x.Q {
						factors += expectFactor(t, r, p, x)
					}
					others := [][]api.Term{s.sample(n, 2, 2, 3).terms(r), s.sample(n, 1, 2, 3).terms(r)}
					for _, y := range slices.Delete(slices.Clone(a.l), k, k+1) {
						others = append(others, y.P...)
					}
					for _, p := range others {
						for _, g := range [][][]api.Term{x.Q, x.P} {
							same, _, e := ideal.Quotient(r, g, [][]api.Term{p}, 300)
							if e != api.OK || isMember(t, r, p, x.P) {
								continue
							}
							quotients++
							if !areEqualLists(same, g) {
								t.Fatalf("T3: %v: %s by %s is %s", q, printedList(r, g), printed(r, p), printedList(r, same))
							}
						}
					}
				}
			}
		}
	}
	if factors < 100 || quotients < 500 {
		t.Errorf("only %d factors, and %d quotients", factors, quotients)
	}
}

// expectFactor expects of the factors of an element of Q that one is in Q, or the others'
// product is in P. It returns how many there are.
func expectFactor(t *testing.T, r api.Ring, p []api.Term, x api.Component) (number int) {
	t.Helper()
	_, l, e := several.Factor(r, p)
	if e != api.OK {
		return 0
	}
	for _, y := range l {
		other, ok, _ := several.Divide(r, p, y.P)
		if !ok || !isMember(t, r, y.P, x.Q) && !isMember(t, r, other, x.P) || !isMember(t, r, other, x.Q) && !isMember(t, r, y.P, x.P) {
			t.Fatalf("T4: %s and %s in %v: %s times %s", printedList(r, x.Q), printedList(r, x.P), r, printed(r, y.P), printed(r, other))
		}
		number++
	}
	return number
}

// Only the ideal counts: not its polynomials, their order, nor what is added of their
// multiples; and not the order of the ring. The minimal polynomial is the same in each
// order, and so are the ideals.
func TestSameIdeals(t *testing.T) {
	t.Parallel()
	s, tried := noise(93), 0
	for n := 1; n <= 5; n++ {
		for range 20 {
			u := s.part(n)
			f, form := s.sampleIdeal(t, lex(n), u), s.form(n-len(u))
			more := slices.Clone(f)
			for _, p := range f {
				more = append(more, times(p, s.sample(n, 2, 2, 2)))
			}
			r := rings(n)[s.below(len(rings(n)))]
			for _, call := range calls() {
				want, ok := asked(t, question{call, lex(n), termsOf(lex(n), f), u, form})
				if !ok {
					continue
				}
				for _, h := range [][]sum{f, s.shuffled(slices.Clone(f)), s.shuffled(more)} {
					q := question{call, r, termsOf(r, h), u, form}
					a, ok := asked(t, q)
					if !ok {
						continue
					}
					tried++
					if !areSameReplies(withoutFuel(a), withoutFuel(inRing(t, r, want))) {
						t.Fatalf("%v: %s, not %s", q, q.told(a), q.told(want))
					}
				}
			}
		}
	}
	if tried < 300 {
		t.Errorf("only %d samples", tried)
	}
}

func withoutFuel(a reply) reply {
	a.left = 0
	return a
}

// inRing is a reply with its ideals' bases in another ring of the same variables.
func inRing(t *testing.T, r api.Ring, a reply) reply {
	t.Helper()
	b := reply{p: a.p}
	if a.g != nil {
		b.g = reducedOf(t, r, a.g)
	}
	for _, x := range a.l {
		b.l = append(b.l, api.Component{Q: reducedOf(t, r, x.Q), P: reducedOf(t, r, x.P)})
	}
	return b
}

// The calls agree: a variable's minimal polynomials for the radical and for the primes
// are the factors of that for the ideal, each once; the radical is the intersection of
// the primes; and there is none, and no component, just if there is none of a variable.
func TestCallsAgree(t *testing.T) {
	t.Parallel()
	s, tried, points := noise(94), 0, 0
	for n := 1; n <= 4; n++ {
		for _, r := range rings(n) {
			for range 20 {
				u := s.part(n)
				f := s.anyForms(r, s.sampleIdeal(t, r, u))
				radical, components := question{"Radical", r, f, u, nil}.ask(enough), question{"Components", r, f, u, nil}.ask(enough)
				if n == 1 && radical.e != components.e {
					t.Fatalf("%s by %v in %v: %d, but %d", printedList(r, f), u, r, radical.e, components.e)
				}
				finite := true
				for k := range n - len(u) {
					form := make([]int, n-len(u))
					form[k] = 1
					least := question{"Least", r, f, u, form}.ask(enough)
					finite = finite && least.e != api.ErrPoint
					if radical.e == api.OK && least.e == api.OK {
						tried++
						expectOnce(t, question{"Least", r, radical.g, u, form}, least.p)
					}
				}
				if !finite {
					points++
					if radical.e == api.OK || components.e == api.OK {
						t.Fatalf("%s by %v in %v: %d and %d", printedList(r, f), u, r, radical.e, components.e)
					}
				}
				all, ok := [][]api.Term{one(n)}, radical.e == api.OK && components.e == api.OK
				for _, x := range components.l {
					if ok {
						all, ok = met(r, all, x.P)
					}
				}
				if ok && !areEqualLists(all, radical.g) {
					t.Fatalf("%s by %v in %v: %s, but %s", printedList(r, f), u, r, printedList(r, radical.g), printedList(r, all))
				}
			}
		}
	}
	if tried < 250 || points < 15 {
		t.Errorf("only %d samples, and %d with infinitely many points", tried, points)
	}
}

// expectOnce expects that a minimal polynomial is the product of the factors of another
// one, each once.
func expectOnce(t *testing.T, q question, p []api.Term) {
	t.Helper()
	thin := aroundOf(q.r, q.u).thin
	_, l, e := several.Factor(thin, p)
	a, ok := asked(t, q)
	if e != api.OK || !ok {
		return
	}
	product := constant(rat(1, 1))
	for _, x := range l {
		product = times(product, sumOf(x.P))
	}
	if !isForm(thin, a.p, monic(thin, product)) {
		t.Fatalf("T2: %v: %s, of %s", q, printed(thin, a.p), printed(thin, p))
	}
}

// With more fuel the result is the same, and correspondingly more remains.
func TestMoreFuel(t *testing.T) {
	t.Parallel()
	s := noise(96)
	for n := 1; n <= 5; n++ {
		for _, r := range rings(n) {
			for range 4 {
				u := s.part(n)
				f := s.anyForms(r, s.sampleIdeal(t, r, u))
				for _, call := range calls() {
					q := question{call, r, f, u, s.form(n - len(u))}
					want := q.ask(enough)
					if want.e == api.ErrFuel {
						continue
					}
					for _, more := range []int{1, 100, api.MaxFuel - enough} {
						a := q.ask(enough + more)
						if a.e == api.OK {
							a.left -= more
						}
						if !areSameReplies(a, want) {
							t.Fatalf("%v with %d more: %s, not %s", q, more, q.told(a), q.told(want))
						}
					}
				}
			}
		}
	}
}
