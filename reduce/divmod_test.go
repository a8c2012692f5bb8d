package reduce_test

import (
	"math/big"
	"slices"
	"testing"

	"primrose/api"
	"primrose/reduce"
)

// expectAnswer holds DivMod and Rem against an answer.
func expectAnswer(t *testing.T, r api.Ring, p []api.Term, l [][]api.Term, fuel int, want answer) {
	t.Helper()
	q, rest, left, e := reduce.DivMod(r, p, l, fuel)
	if e != want.e || left != want.left || !isForm(r, rest, want.rest) || !areForms(r, q, want.q) {
		t.Fatalf("O1: DivMod of %s by %s in %v with %d: %s, %s, %d, %d, not %s, %s, %d, %d", printed(r, p), printedList(r, l), r, fuel,
			printedList(r, q), printed(r, rest), left, e, printedList(r, termsOf(r, want.q)), printed(r, want.rest.terms(r)), want.left, want.e)
	}
	rest, left, e = reduce.Rem(r, p, l, fuel)
	if e != want.e || left != want.left || !isForm(r, rest, want.rest) {
		t.Fatalf("O2: Rem of %s by %s in %v with %d: %s, %d, %d, not %s, %d, %d", printed(r, p), printedList(r, l), r, fuel,
			printed(r, rest), left, e, printed(r, want.rest.terms(r)), want.left, want.e)
	}
}

// expectError expects nothing beside an error.
func expectError(t *testing.T, r api.Ring, p []api.Term, l [][]api.Term, fuel int, want api.Errno) {
	t.Helper()
	expectAnswer(t, r, p, l, fuel, answer{e: want})
}

// expectDivided holds DivMod and Rem against the words of the chapter, with more
// fuel than is needed. It returns the number of steps.
func expectDivided(t *testing.T, r api.Ring, p []api.Term, l [][]api.Term) int {
	t.Helper()
	want := divided(r, sumOf(p), sumsOf(l), api.MaxFuel)
	expectAnswer(t, r, p, l, api.MaxFuel, want)
	return api.MaxFuel - want.left
}

// division is one whose answer is known.
type division struct {
	p, l, q, rest string
	steps         int
}

// expectDivisions holds divisions in a ring against their answers.
func expectDivisions(t *testing.T, r api.Ring, all []division) {
	t.Helper()
	for _, x := range all {
		p, l := parsed(t, r, x.p), parsedList(t, r, x.l)
		want := answer{sumsOf(parsedList(t, r, x.q)), sumOf(parsed(t, r, x.rest)), 100 - x.steps, api.OK}
		expectAnswer(t, r, p, l, 100, want)
		if steps := expectDivided(t, r, p, l); steps != x.steps {
			t.Errorf("O1: %v in %v takes %d steps", x, r, steps)
		}
	}
}

func TestO1Examples(t *testing.T) {
	expectDivisions(t, lex(2), []division{
		{"x^2*y + x*y^2 + y^2", "x*y - 1; y^2 - 1", "x + y; 1", "x + y + 1", 3},
		{"x^2*y + x*y^2 + y^2", "y^2 - 1; x*y - 1", "x + 1; x", "2*x + 1", 3},
		// One element.
		{"x^3 - y^3", "x - y", "x^2 + x*y + y^2", "0", 3},
		{"x^2", "x + 1", "x - 1", "1", 2},
		{"3*x^2 + 1", "2*x", "3/2*x", "1", 1},
		{"x", "2*x + y", "1/2", "-1/2*y", 1},
		{"1/2*x*y + y", "-2/3*x + 1/5", "-3/4*y", "23/20*y", 1},
		{"x*y + 1", "x*y + 1", "1", "0", 1},
		{"-3*x*y - 3", "x*y + 1", "-3", "0", 1},
		{"x^5", "x^2 - y", "x^3 + x*y", "x*y^2", 2},
		// Nothing fits.
		{"x + y", "x^2; y^2; x*y", "0; 0; 0", "x + y", 0},
		{"y^9 + 7", "x", "0", "y^9 + 7", 0},
		{"5", "x; y", "0; 0", "5", 0},
		// Only later terms fit, from any element on.
		{"x^2 + x*y + y", "y", "x + 1", "x^2", 2},
		{"x^3 + x*y^2 + y^3 + 4", "y^3 - 1", "1", "x^3 + x*y^2 + 5", 1},
		{"x^2 + x*y + y^2 + x + y + 1", "x^3; y^3; x - 3", "0; 0; x + y + 4", "y^2 + 4*y + 13", 3},
		{"x^3 + y^3", "x^4; y - 1; x^3", "0; y^2 + y + 1; 1", "1", 4},
		// Terms between cancel before their turn comes, and new ones arise.
		{"x^2 + x*y - x", "x + y - 1", "x", "0", 1},
		{"x^2*y - x", "x*y - 1; x", "x; 0", "0", 1},
		{"x^2*y", "x*y - 1; x - 1", "x; 1", "1", 2},
		// Constants.
		{"x^2 + 3*y - 1", "2", "1/2*x^2 + 3/2*y - 1/2", "0", 3},
		{"x^2 + 3*y - 1", "x; -1/3", "x; -9*y + 3", "0", 3},
		{"x^2 + 3*y - 1", "1; x", "x^2 + 3*y - 1; 0", "0", 3},
		{"7/2", "3", "7/6", "0", 1},
	})
}

// The same polynomials, but other leading terms.
func TestO1Orders(t *testing.T) {
	expectDivisions(t, lex(3), []division{{"x*z + y^2", "x*z - y^2", "1", "2*y^2", 1}, {"y^2", "x*z - y^2", "0", "y^2", 0}, {"x + y^5", "x - y^5; y", "1; 2*y^4", "0", 2}})
	expectDivisions(t, api.Ring{Names: letters(3), Order: api.Grlex}, []division{{"x*z + y^2", "x*z - y^2", "1", "2*y^2", 1}, {"x + y^5", "x - y^5; x", "-1; 2", "0", 2}})
	expectDivisions(t, api.Ring{Names: letters(3), Order: api.Grevlex}, []division{{"x*z + y^2", "x*z - y^2", "-1", "2*x*z", 1}, {"x*z", "x*z - y^2", "0", "x*z", 0}})
	expectDivisions(t, api.Ring{Names: letters(3), Order: api.Block, First: 1}, []division{{"x + y^5", "x - y^5", "1", "2*y^5", 1}, {"y*z + z^3", "y*z - z^3", "-1", "2*y*z", 1}})
	expectDivisions(t, api.Ring{Names: letters(3), Order: api.Block, First: 2}, []division{{"x + y^5", "x - y^5", "-1", "2*x", 1}, {"x + z^5", "x - z^5", "1", "2*z^5", 1}})
}

// Of several elements that fit, the first one is taken, whatever it leaves.
func TestO1FirstThatFits(t *testing.T) {
	for _, r := range rings(2) {
		expectDivisions(t, r, []division{
			{"x^2", "x - 1; x; x^2; 1", "x + 1; 0; 0; 1", "0", 3},
			{"x^2", "x; x - 1; x^2; 1", "x; 0; 0; 0", "0", 1},
			{"x^2", "x^2 - 2; x; x - 1; 1", "1; 0; 0; 2", "0", 2},
			{"x^2", "1; x - 1; x", "x^2; 0; 0", "0", 1},
			{"x^2 + x", "x^2 - 2; x - 1; x^2; x", "1; 1; 0; 0", "3", 2},
			// Also if the same ones stand twice.
			{"x^2 + x", "x; x; x + 1", "x + 1; 0; 0", "0", 2},
			// And again from the first one on after each step.
			{"x^3", "y; x^3 - y; x", "1; 1; 0", "0", 2},
			{"x^3", "x; y; x^3 - y", "x^2; 0; 0", "0", 1},
			{"x^2 + x + 1", "x^2 - 1; 2; x", "1; 1/2*x + 1; 0", "0", 3},
		})
	}
}

// Elements that are 0 never fit; their quotients are 0.
func TestO1ZeroElements(t *testing.T) {
	for _, r := range rings(2) {
		expectDivisions(t, r, []division{
			{"x^2 + y", "0; x; 0; y + 1; 0", "0; x; 0; 1; 0", "-1", 2},
			{"x^2 + y", "0; 0; x - 1", "0; 0; x + 1", "y + 1", 2},
			{"x^2 + y", "x; 0", "x; 0", "y", 1},
			{"x^2 + y", "0", "0", "x^2 + y", 0},
			{"x^2 + y", "0; 0; 0", "0; 0; 0", "x^2 + y", 0},
			{"0", "0; 0", "0; 0", "0", 0},
		})
	}
	for _, r := range allRings() {
		n := len(r.Names)
		p := plus(power(n-1, 2), constant(rat(2, 3))).terms(r)
		f, g := power(n-1, 1).terms(r), constant(rat(-2, 1)).terms(r)
		for _, zero := range zeros(n) {
			for i, l := range [][][]api.Term{{zero, f, g}, {f, zero, g}, {f, g, zero}, {zero, zero, f, zero, g}} {
				if steps := expectDivided(t, r, p, l); steps != 2 {
					t.Errorf("O1: list %d with %v: %d steps", i, zero, steps)
				}
			}
			for _, l := range [][][]api.Term{{zero}, {zero, zero, zero}} {
				if steps := expectDivided(t, r, p, l); steps != 0 {
					t.Errorf("O1: only %v: %d steps", zero, steps)
				}
			}
		}
	}
}

// 0 is divided without a step.
func TestO1Zero(t *testing.T) {
	for _, r := range allRings() {
		n := len(r.Names)
		for _, zero := range zeros(n) {
			for _, l := range [][][]api.Term{nil, {}, {zero}, {power(0, 1).terms(r)}, {zero, constant(rat(3, 1)).terms(r), power(n-1, 2).terms(r)}} {
				want := answer{make([]sum, len(l)), nil, 0, api.OK}
				expectAnswer(t, r, zero, l, 0, want)
				want.left = 9
				expectAnswer(t, r, zero, l, 9, want)
			}
		}
	}
}

// Without elements the remainder is p in plain form.
func TestO1NoElements(t *testing.T) {
	s := noise(2)
	for _, r := range allRings() {
		for k := range 40 {
			p := s.sample(len(r.Names), k%9, 4, 1+3*k)
			for _, l := range [][][]api.Term{nil, {}} {
				expectAnswer(t, r, s.anyForm(r, p), l, k, answer{nil, p, k, api.OK})
			}
		}
	}
}

// multiple makes a sum of multiples of the elements, and perhaps of something more,
// so that divisions take steps.
func (s *noise) multiple(n int, l []sum, high int) sum {
	p := s.sample(n, s.below(4), high, 3)
	for _, f := range l {
		p = plus(p, times(f, s.sample(n, s.below(3), high, 3)))
	}
	return p
}

// Lists of terms of all forms, in all rings.
func TestO1Samples(t *testing.T) {
	s, steps := noise(3), 0
	for _, r := range allRings() {
		n := len(r.Names)
		for k := range 150 {
			l := s.samples(k%5, n, 4, 3, 1+k/10)
			p := s.multiple(n, l, 3)
			steps += expectDivided(t, r, s.anyForm(r, p), s.anyForms(r, l))
		}
	}
	if steps < 10000 {
		t.Errorf("only %d steps were taken", steps)
	}
}

// All polynomials of degree at most 1 in each of two variables, with coefficients
// from -1 to 1, by some of them.
func TestO1SmallPolynomials(t *testing.T) {
	r := api.Ring{Names: letters(2), Order: api.Grevlex}
	var all []sum
	for code := range 81 {
		p, rest := sum{}, code
		for place := range 4 {
			p.add(key{place % 2, place / 2}, rat(int64(rest%3-1), 1))
			rest /= 3
		}
		all = append(all, p)
	}
	for i, p := range all {
		for k, f := range all {
			expectDivided(t, r, p.terms(r), termsOf(r, []sum{f, all[(7*i+k)%81]}))
		}
	}
}

// Great coefficients, of both signs.
func TestO1GreatNumbers(t *testing.T) {
	s, steps := noise(4), 0
	for k := range 120 {
		r := rings(1 + k%3)[k%3]
		n := len(r.Names)
		l := s.samples(1+k%3, n, 3, 3, 1+10*k)
		p := plus(s.sample(n, 4, 4, 1+20*k), times(l[0], s.sample(n, 2, 2, 1+5*k)))
		steps += expectDivided(t, r, s.anyForm(r, p), s.anyForms(r, l))
	}
	if steps < 300 {
		t.Errorf("only %d steps were taken", steps)
	}
}

// Powers of the leading coefficient become denominators, and cancel again.
func TestO1GrowingDenominators(t *testing.T) {
	for _, r := range rings(2) {
		f := plus(times(constant(rat(6, 1)), power(0, 1)), constant(rat(-35, 11)))
		expectDivided(t, r, power(0, 200).terms(r), [][]api.Term{f.terms(r)})
		p := constant(rat(1, 1))
		for range 30 {
			p = times(p, f)
		}
		expectDivided(t, r, p.terms(r), [][]api.Term{f.terms(r)})
		expectDivided(t, r, plus(p, power(1, 3)).terms(r), [][]api.Term{f.terms(r), power(1, 2).terms(r)})
	}
}

// What goes to the remainder early and late has the right denominator.
func TestO1RemaindersBetweenSteps(t *testing.T) {
	r := lex(3)
	expectDivisions(t, r, []division{
		{"x^2*z + x^2 + x*y + x + z", "3*x*y - z; 7*z - 2", "1/3; 1/7*x^2 + 4/21", "9/7*x^2 + x + 8/21", 3},
		{"x + y + z", "2*y - 1; 3*z - 1", "1/2; 1/3", "x + 5/6", 2},
		{"x + y^2 + z", "2*y - 1; 3*z - 1", "1/2*y + 1/4; 1/3", "x + 7/12", 3},
	})
}

// Divisions of many steps and many terms.
func TestO1LongDivisions(t *testing.T) {
	for _, r := range rings(2) {
		// x^n - 1 by x - 1.
		const n = 5000
		top, x := minus(power(0, n), constant(rat(1, 1))), minus(power(0, 1), constant(rat(1, 1)))
		q := sum{}
		for k := range n {
			q.add(key{k}, rat(1, 1))
		}
		expectAnswer(t, r, top.terms(r), [][]api.Term{x.terms(r)}, n, answer{[]sum{q}, nil, 0, api.OK})
		expectAnswer(t, r, q.terms(r), [][]api.Term{x.terms(r)}, n, answer{[]sum{slope(n)}, constant(rat(n, 1)), 1, api.OK})
	}
}

// slope is the quotient of 1 + x + x^2 + .. by x - 1: its coefficients are the
// numbers of the terms above.
func slope(n int) sum {
	s := sum{}
	for k := range n - 1 {
		s.add(key{k}, rat(int64(n-1-k), 1))
	}
	return s
}

// The elements may be one list, and p may be one of them.
func TestO1SameLists(t *testing.T) {
	for _, r := range rings(2) {
		p := parsed(t, r, "2*x*y + 3*x + 1")
		expectAnswer(t, r, p, [][]api.Term{p, p, p}, 1, answer{[]sum{constant(rat(1, 1)), {}, {}}, nil, 0, api.OK})
		expectDivided(t, r, p, [][]api.Term{p[1:], p[:2], p})
		expectDivided(t, r, p[:2], [][]api.Term{p[2:], p[1:2]})
	}
}

// A multiple of an element has it as its quotient, and nothing remains.
func TestO1Multiples(t *testing.T) {
	s := noise(5)
	for _, r := range allRings() {
		n := len(r.Names)
		for k := range 30 {
			f, by := s.sample(n, 1+k%4, 4, 1+k), s.sample(n, k%5, 4, 1+k)
			if len(f) == 0 {
				continue
			}
			steps := len(by)
			p := times(f, by)
			expectAnswer(t, r, s.anyForm(r, p), [][]api.Term{s.anyForm(r, f)}, steps, answer{[]sum{by}, nil, 0, api.OK})
		}
	}
}

// reversed is a list from its end on.
func reversed[T any](l []T) []T {
	l = slices.Clone(l)
	slices.Reverse(l)
	return l
}

// The order of the terms does not matter, but that of the elements may.
func TestO1OrderOfTerms(t *testing.T) {
	s := noise(6)
	for _, r := range allRings() {
		n := len(r.Names)
		for range 15 {
			l := s.samples(3, n, 4, 3, 4)
			p := s.multiple(n, l, 3)
			backwards := termsOf(r, l)
			for i := range backwards {
				backwards[i] = reversed(backwards[i])
			}
			expectDivided(t, r, reversed(p.terms(r)), backwards)
			expectDivided(t, r, p.terms(r), reversed(backwards))
		}
	}
}

// Monomials that stand more than once, also the leading ones, which may be those
// that vanish.
func TestO1RepeatedMonomials(t *testing.T) {
	r := lex(2)
	x2, xy, y := []int{2, 0}, []int{1, 1}, []int{0, 1}
	c := func(n int64) api.Rat { return toRat(rat(n, 1)) }
	p := []api.Term{{C: c(2), E: xy}, {C: c(5), E: x2}, {C: c(1), E: y}, {C: c(-5), E: x2}, {C: c(1), E: xy}} // 3*x*y + y
	f := []api.Term{{C: c(1), E: x2}, {C: c(4), E: y}, {C: c(-2), E: y}, {C: c(-1), E: x2}}                   // 2*y
	g := []api.Term{{C: c(1), E: y}, {C: c(0), E: xy}}                                                        // y
	q := sumOf(parsed(t, r, "3/2*x + 1/2"))
	expectAnswer(t, r, p, [][]api.Term{f, g}, 2, answer{[]sum{q, {}}, nil, 0, api.OK})
	expectAnswer(t, r, p, [][]api.Term{g, f}, 2, answer{[]sum{times(q, constant(rat(2, 1))), {}}, nil, 0, api.OK})
	// Those in order with a first term that is 0.
	h := []api.Term{{C: c(0), E: x2}, {C: c(1), E: y}}
	expectAnswer(t, r, p, [][]api.Term{h}, 2, answer{[]sum{times(q, constant(rat(2, 1)))}, nil, 0, api.OK})
	h[0].C = api.Rat{Num: c(7).Num}
	expectAnswer(t, r, p, [][]api.Term{h}, 2, answer{[]sum{times(q, constant(rat(2, 1)))}, nil, 0, api.OK})
	// And those that stand twice one behind the other.
	h = []api.Term{{C: c(1), E: x2}, {C: c(-1), E: x2}, {C: c(1), E: y}}
	expectAnswer(t, r, p, [][]api.Term{h}, 2, answer{[]sum{times(q, constant(rat(2, 1)))}, nil, 0, api.OK})
}

// A polynomial is no other one for what its ring is named.
func TestO1Names(t *testing.T) {
	r := lex(2)
	other := api.Ring{Names: []string{"Z9", "abcdefgh"}, Order: api.Lex}
	p, l := parsed(t, r, "x^2*y + x*y^2 + y^2"), parsedList(t, r, "x*y - 1; y^2 - 1")
	expectAnswer(t, other, p, l, 5, divided(r, sumOf(p), sumsOf(l), 5))
}

// Elements whose leading coefficient is 1, with integers alone.
func TestO1Integers(t *testing.T) {
	s := noise(7)
	for k := range 60 {
		r := rings(2)[k%4]
		p := sum{}
		for range 8 {
			p.add(key{s.below(5), s.below(5)}, new(big.Rat).SetInt(s.great(1+10*k)))
		}
		f := plus(power(0, 2), times(power(0, 1), constant(rat(int64(k-30), 1))))
		expectDivided(t, r, p.terms(r), [][]api.Term{f.terms(r), times(f, power(1, 1)).terms(r)})
	}
}
