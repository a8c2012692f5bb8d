package primary_test

import (
	"math"
	"math/big"
	"slices"
	"testing"

	"primrose/api"
	"primrose/approx"
	"primrose/fraction"
	"primrose/notation"
	"primrose/poly"
	"primrose/several"
)

// Promises of the whole program (P1 to P4 of DOC.md).

// irreducible makes a polynomial that is its own only factor.
func (s *noise) irreducible(r api.Ring) []api.Term {
	for {
		_, l, e := several.Factor(r, s.sample(r, 3, 2))
		if e == api.OK && len(l) > 0 {
			return l[s.below(len(l))].P
		}
	}
}

// The components of one polynomial are its factors, each to the power of its multiplicity.
func TestP1(t *testing.T) {
	t.Parallel()
	s, tried, several, multiple := noise(20), 0, 0, 0
	for n := 1; n <= 5; n++ {
		for _, r := range rings(n) {
			for range 12 {
				f := number(r, 1+s.below(5))
				var want []api.Component
				for range 1 + s.below(3) {
					p, q := must(poly.Monic(r, s.irreducible(r))), number(r, 1)
					if slices.ContainsFunc(want, func(x api.Component) bool { return isSame(x.P[0], p) }) {
						continue
					}
					power := 1 + s.below(3)/2 + s.below(3)/2
					for range power {
						q = times(r, q, p)
					}
					multiple += power / 2
					f, want = times(r, f, q), append(want, api.Component{Q: [][]api.Term{q}, P: [][]api.Term{p}})
				}
				slices.SortFunc(want, func(x, y api.Component) int { return compare(r, x.P[0], y.P[0]) })
				a, ok := asked(t, question{"Decompose", r, [][]api.Term{s.anyForm(f)}})
				if !ok {
					continue
				}
				tried++
				several += min(1, len(want)/2)
				if a.left = 0; !areSameReplies(a, reply{l: want}) {
					t.Fatalf("P1: %s in %v: %s, not %s", printed(r, f), r, a.printed(r), printedComponents(r, want))
				}
			}
		}
	}
	if tried < 180 || several < 90 || multiple < 60 {
		t.Errorf("only %d samples, %d with several factors, and %d multiplicities", tried, several, multiple)
	}
}

func TestP1Examples(t *testing.T) {
	t.Parallel()
	for _, x := range []struct{ f, want string }{
		{"x^4 + 4", "x^2 - 2*x + 2 / x^2 + 2*x + 2"}, {"2*x^2*y - 2*y", "y / x - 1 / x + 1"}, {"(x + y)^2*(x - y)", "x - y / x^2 + 2*x*y + y^2 | x + y"},
		{"x^2 + y^2", "x^2 + y^2"}, {"(2*x - 1)^2*(3*y + 2)", "y + 2/3 / x^2 - x + 1/4 | x - 1/2"}, {"x*y*(x + y + 1)", "y / x / x + y + 1"},
		{"(x^2 - 2)*(x^2 - 3)^2*(x - 5)", "x - 5 / x^4 - 6*x^2 + 9 | x^2 - 3 / x^2 - 2"}, {"-7", ""},
	} {
		q := question{"Decompose", lex(2), parsedList(t, lex(2), x.f)}
		if a := q.ask(api.MaxFuel); a.e != api.OK || a.printed(q.r) != x.want {
			t.Errorf("P1: %v: %s, not %s", q, q.told(a), x.want)
		}
	}
}

// The radical of an intersection is the intersection of the radicals.
func TestP2Radicals(t *testing.T) {
	t.Parallel()
	s, tried := noise(21), 0
	for n := 1; n <= 5; n++ {
		for _, r := range rings(n) {
			for range 8 {
				f, _ := s.knownIdeal(t, r, 1+s.below(2))
				h := s.sampleIdeal(t, r)
				both, ok := met(r, f, h)
				if !ok {
					continue
				}
				var a [3]reply
				for k, g := range [][][]api.Term{f, h, both} {
					var is bool
					a[k], is = asked(t, question{"Radical", r, s.anyForms(g)})
					ok = ok && is
				}
				if !ok {
					continue
				}
				if want, ok := met(r, a[0].g, a[1].g); ok {
					tried++
					if !areSame(a[2].g, want) {
						t.Fatalf("P2: %s and %s in %v: %s, not %s", printedList(r, f), printedList(r, h), r, a[2].printed(r), printedList(r, want))
					}
				}
			}
		}
	}
	if tried < 60 {
		t.Errorf("only %d samples", tried)
	}
}

// inRing are ideals' bases in another ring of the same variables, as texts without order.
func inRing(t *testing.T, r api.Ring, l [][][]api.Term) []string {
	t.Helper()
	var all [][][]api.Term
	for _, f := range l {
		all = append(all, reduced(t, r, f))
	}
	return printedSets(r, all)
}

// Primes, dimension and radical do not depend on the order of the ring, and the dimension
// is the greatest one of those of the primes.
func TestP2Orders(t *testing.T) {
	t.Parallel()
	s, tried := noise(22), 0
	for n := 1; n <= 4; n++ {
		for range 12 {
			f := s.sampleIdeal(t, lex(n))
			whole := areSame(reduced(t, lex(n), f), [][]api.Term{number(lex(n), 1)})
			for _, call := range []string{"Primes", "Least", "Radical"} {
				var want []string
				for _, r := range rings(n) {
					a, ok := asked(t, question{call, r, s.anyForms(f)})
					if !ok {
						continue
					}
					l := a.p
					if call == "Radical" {
						l = [][][]api.Term{a.g}
					}
					got := inRing(t, lex(n), l)
					if want == nil {
						want = got
					}
					most := -1
					for _, p := range l {
						most = max(most, dimension(t, r, p))
					}
					tried++
					if !slices.Equal(got, want) || most != dimension(t, r, f) || most < 0 != whole {
						t.Fatalf("P2: %v: %v of dimension %d, not %v", question{call, r, f}, got, most, want)
					}
				}
			}
		}
	}
	if tried < 350 {
		t.Errorf("only %d samples", tried)
	}
}

// vanish reports whether all polynomials have the value 0 at a point.
func vanish(t *testing.T, r api.Ring, f [][]api.Term, at []api.Rat) bool {
	t.Helper()
	for _, p := range f {
		v, e := poly.Eval(r, p, at)
		if e != api.OK {
			t.Fatalf("%s: %d", printed(r, p), e)
		}
		if fraction.Sign(v) != 0 {
			return false
		}
	}
	return true
}

// A point lies on the variety of an ideal just if it lies on that of a minimal prime.
func TestP2Points(t *testing.T) {
	t.Parallel()
	s, on, off := noise(23), 0, 0
	for n := 1; n <= 4; n++ {
		for _, r := range rings(n) {
			for range 12 {
				f := s.sampleIdeal(t, r)
				a, ok := asked(t, question{"Least", r, s.anyForms(f)})
				if !ok {
					continue
				}
				for range 60 {
					var at []api.Rat
					for range n {
						at = append(at, fraction.Of(s.below(5)-2))
					}
					isOn := vanish(t, r, f, at)
					if isOn != slices.ContainsFunc(a.p, func(p [][]api.Term) bool { return vanish(t, r, p, at) }) {
						t.Fatalf("P2: %s in %v, of which %s are the primes, at %v", printedList(r, f), r, a.printed(r), at)
					}
					if isOn {
						on++
					} else {
						off++
					}
				}
			}
		}
	}
	if on < 800 || off < 5000 {
		t.Errorf("only %d points on, and %d off", on, off)
	}
}

// A polynomial that is read from its text is that polynomial, in each call.
func TestP3(t *testing.T) {
	t.Parallel()
	s, tried := noise(24), 0
	for n := 1; n <= 5; n++ {
		for _, r := range rings(n) {
			for range 5 {
				f := s.anyForms(s.sampleIdeal(t, r))
				var read [][]api.Term
				for _, p := range f {
					plain := must(poly.Norm(r, p))
					text, e := notation.Print(r, p)
					q, e2 := notation.Parse(r, text)
					if e != api.OK || e2 != api.OK || !isSame(q, plain) {
						t.Fatalf("P3: %s in %v: %s, errors %d and %d", printed(r, p), r, text, e, e2)
					}
					read = append(read, q)
				}
				for _, call := range calls() {
					want := question{call, r, f}.ask(enough)
					if got := (question{call, r, read}).ask(enough); !areSameReplies(got, want) {
						t.Fatalf("P3: %v: %s, not %s", question{call, r, f}, got.printed(r), want.printed(r))
					}
					for _, g := range slices.Concat(want.p, [][][]api.Term{want.g}, qs(want.l), ps(want.l)) {
						if !areSame(parsedList(t, r, printedList(r, g)), g) {
							t.Fatalf("P3: %v: %s is not read again", question{call, r, f}, printedList(r, g))
						}
						tried++
					}
				}
			}
		}
	}
	if tried < 800 {
		t.Errorf("only %d ideals", tried)
	}
}

// toBig is a fraction of the library.
func toBig(x api.Rat) *big.Rat {
	var parts [2]*big.Int
	for k, limbs := range [][]uint32{x.Num.Mag, x.Den} {
		parts[k] = new(big.Int)
		for i := len(limbs) - 1; i >= 0; i-- {
			parts[k].Lsh(parts[k], 32).Or(parts[k], big.NewInt(int64(limbs[i])))
		}
	}
	if x.Num.Neg {
		parts[0].Neg(parts[0])
	}
	return new(big.Rat).SetFrac(parts[0], parts[1])
}

// floats are floats of all sizes, edges among them.
func (s *noise) float() float64 {
	edges := []float64{0, math.Copysign(0, -1), 1, -1, 0.1, -1.0 / 3, math.MaxFloat64, -math.MaxFloat64, math.SmallestNonzeroFloat64, -math.SmallestNonzeroFloat64, 1 << 53, 1<<53 + 2, 1e-310, math.Pi, 1e100, -1e-100, 65536.5}
	if s.below(2) == 0 {
		return edges[s.below(len(edges))]
	}
	return (float64(s.below(1<<30)) - 1<<29) * math.Pow(2, float64(s.below(80)-40)) / 3
}

// The value of a polynomial at floats is a float as its fraction is: the nearest one, and
// the polynomials of a prime that have the value 0 at a point of its floats have it as
// floats.
func TestP4(t *testing.T) {
	t.Parallel()
	s, finite, endless := noise(25), 0, 0
	for n := 1; n <= 5; n++ {
		for _, r := range rings(n) {
			for range 60 {
				p := s.anyForm(s.sample(r, 4, 4))
				var at []api.Rat
				want := new(big.Rat)
				var values []*big.Rat
				for range n {
					f := s.float()
					x, e := approx.From(f)
					if e != api.OK {
						t.Fatalf("P4: %g: %d", f, e)
					}
					at, values = append(at, x), append(values, new(big.Rat).SetFloat64(f))
				}
				for _, term := range must(poly.Norm(r, p)) {
					v := toBig(term.C)
					for i, k := range term.E {
						for range k {
							v.Mul(v, values[i])
						}
					}
					want.Add(want, v)
				}
				v, e := poly.Eval(r, p, at)
				nearest, _ := want.Float64()
				got := approx.To(v)
				if e != api.OK || toBig(v).Cmp(want) != 0 || math.Float64bits(got) != math.Float64bits(nearest) {
					t.Fatalf("P4: %s at %v: %g, not %g", printed(r, p), values, got, nearest)
				}
				if order, ok := approx.Cmp(v, got); !math.IsInf(got, 0) && (!ok || order != toBig(v).Cmp(new(big.Rat).SetFloat64(got))) {
					t.Fatalf("P4: %s at %v: %g is %d", printed(r, p), values, got, order)
				}
				if math.IsInf(got, 0) {
					endless++
				} else {
					finite++
				}
			}
		}
	}
	if finite < 600 || endless < 100 {
		t.Errorf("only %d floats, and %d endless ones", finite, endless)
	}
}

// Points at floats lie on a prime of an ideal just if the values there are 0 as floats.
func TestP4Primes(t *testing.T) {
	t.Parallel()
	r := lex(2)
	l, _, e := asPrimes(question{"Least", r, parsedList(t, r, "(4*x - 1)*(x^2 + y); (8*y + 1)*(x^2 + y)")})
	if e != api.OK || len(l) != 2 {
		t.Fatalf("P4: %s, error %d", printedLists(r, l), e)
	}
	for _, x := range []struct {
		x, y float64
		on   bool
	}{{0.25, -0.125, true}, {0.25, -0.0625, true}, {1e-150, -1e-300, false}, {0.5, -0.25, true}, {0.25, 0.125, false}, {math.Copysign(0, -1), 0, true}, {1 << 500, 1, false}, {0.1, -0.1 * 0.1, false}} {
		var at []api.Rat
		for _, f := range []float64{x.x, x.y} {
			v, _ := approx.From(f)
			at = append(at, v)
		}
		on := slices.ContainsFunc(l, func(p [][]api.Term) bool {
			return !slices.ContainsFunc(p, func(q []api.Term) bool {
				v, _ := poly.Eval(r, q, at)
				return approx.To(v) != 0
			})
		})
		if on != x.on {
			t.Errorf("P4: %g, %g: %t", x.x, x.y, on)
		}
	}
}

// asPrimes are the primes that a call answers.
func asPrimes(q question) ([][][]api.Term, int, api.Errno) {
	a := q.ask(api.MaxFuel)
	return a.p, a.left, a.e
}
