package extend_test

import (
	"slices"
	"testing"

	"primrose/api"
	"primrose/extend"
)

// calls are all calls of the package.
func calls() []string {
	return []string{"Contract", "Halve", "Degree"}
}

// question is a call without its fuel. Halve does without u.
type question struct {
	call string
	r    api.Ring
	f    [][]api.Term
	u    []int
}

// reply is what a call answers.
type reply struct {
	g          [][]api.Term
	h          []api.Term
	u          []int
	n, s, left int
	e          api.Errno
}

func (q question) ask(fuel int) (a reply) {
	switch q.call {
	case "Contract":
		a.g, a.left, a.e = extend.Contract(q.r, q.f, q.u, fuel)
	case "Halve":
		a.u, a.h, a.g, a.s, a.left, a.e = extend.Halve(q.r, q.f, fuel)
	case "Degree":
		a.n, a.left, a.e = extend.Degree(q.r, q.f, q.u, fuel)
	default:
		panic(q.call)
	}
	return a
}

// answer is what a call should answer.
type answer struct {
	g          []sum
	h          sum // nil if there is none
	u          []int
	n, s, left int
	e          api.Errno
	fault      int   // what the error occurs in
	places     []int // the basis in which each step is taken
}

// words is what the words of the chapter answer.
func (q question) words(fuel int) (a answer) {
	c := &words{left: fuel}
	defer func() {
		if x := recover(); x != nil {
			a = answer{e: x.(api.Errno), fault: c.fault, places: c.places}
		}
	}()
	f := sumsOf(q.f)
	switch q.call {
	case "Contract":
		a.g, _ = c.contract(q.r, f, q.u)
	case "Halve":
		a.u, a.h, a.g, a.s = c.halve(q.r, f)
	case "Degree":
		a.n = c.degree(q.r, f, q.u)
	default:
		panic(q.call)
	}
	a.left, a.places = c.left, c.places
	return a
}

// isAnswer holds what a call answers against what it should.
func (q question) isAnswer(a reply, want answer) bool {
	if a.e != want.e || a.left != want.left || a.n != want.n || a.s != want.s || !slices.Equal(a.u, want.u) {
		return false
	}
	if want.e != api.OK && (a.g != nil || a.h != nil || a.u != nil) || want.h == nil && a.h != nil {
		return false
	}
	return areForms(q.r, a.g, want.g) && isForm(q.r, a.h, want.h)
}

// expect holds a call against an answer.
func expect(t *testing.T, q question, fuel int, want answer) {
	t.Helper()
	a := q.ask(fuel)
	if !q.isAnswer(a, want) {
		t.Fatalf("%s of %s by %v in %v with %d: %s; %s; %v, %d, %d, %d, error %d, not %s; %s; %v, %d, %d, %d, error %d", q.call, printedList(q.r, q.f), q.u, q.r, fuel,
			printedList(q.r, a.g), printed(q.r, a.h), a.u, a.n, a.s, a.left, a.e,
			printedList(q.r, termsOf(q.r, want.g)), printed(q.r, want.h.terms(q.r)), want.u, want.n, want.s, want.left, want.e)
	}
}

// expectWords holds a call against the words of the chapter, and returns what these
// answer.
func expectWords(t *testing.T, q question, fuel int) answer {
	t.Helper()
	want := q.words(fuel)
	expect(t, q, fuel, want)
	return want
}

// expectFuel holds a call with each amount of fuel up to what it needs, and some more,
// against what it answers with all of it. It returns the number of steps, and counts in
// places in which of the call's bases the fuel ends.
func expectFuel(t *testing.T, q question, places map[int]int) (steps int) {
	t.Helper()
	all := expectWords(t, q, api.MaxFuel)
	if all.e != api.OK {
		t.Fatalf("%s of %s by %v in %v: %d", q.call, printedList(q.r, q.f), q.u, q.r, all.e)
	}
	steps = api.MaxFuel - all.left
	for fuel := range steps {
		expect(t, q, fuel, answer{e: api.ErrFuel})
		places[all.places[fuel]]++
	}
	for _, more := range []int{0, 1, 2, 1000, api.MaxFuel - steps - 1, api.MaxFuel - steps} {
		all.left = more
		expect(t, q, steps+more, all)
	}
	return steps
}

// expectNothing expects nothing beside an error.
func expectNothing(t *testing.T, q question, fuel int, want api.Errno) {
	t.Helper()
	expect(t, q, fuel, answer{e: want})
}

// expectError expects nothing beside an error of each call.
func expectError(t *testing.T, r api.Ring, f [][]api.Term, u []int, fuel int, want api.Errno) {
	t.Helper()
	for _, call := range calls() {
		expectNothing(t, question{call, r, f, u}, fuel, want)
	}
}

// expectContraction expects an answer of Contract, with each amount of fuel.
func expectContraction(t *testing.T, r api.Ring, f string, u []int, want string) (steps int) {
	t.Helper()
	q := question{"Contract", r, parsedList(t, r, f), u}
	a := q.ask(api.MaxFuel)
	if a.e != api.OK || printedList(r, a.g) != want {
		t.Errorf("S1: %s by %v in %v: %s, error %d, not %s", f, u, r, printedList(r, a.g), a.e, want)
	}
	return expectFuel(t, q, map[int]int{})
}

// half is what Halve answers, in texts.
type half struct {
	f string
	u []int
	h string
	g string
	s int
}

// expectHalf expects an answer of Halve, with each amount of fuel.
func expectHalf(t *testing.T, r api.Ring, x half) (steps int) {
	t.Helper()
	q := question{"Halve", r, parsedList(t, r, x.f), nil}
	a := q.ask(api.MaxFuel)
	if a.e != api.OK || !slices.Equal(a.u, x.u) || printed(r, a.h) != x.h || printedList(r, a.g) != x.g || a.s != x.s {
		t.Errorf("S2: %v in %v: %v; %s; %s; %d, error %d", x, r, a.u, printed(r, a.h), printedList(r, a.g), a.s, a.e)
	}
	return expectFuel(t, q, map[int]int{})
}

// expectDegree expects an answer of Degree, with each amount of fuel.
func expectDegree(t *testing.T, r api.Ring, f string, u []int, want int) (steps int) {
	t.Helper()
	q := question{"Degree", r, parsedList(t, r, f), u}
	if a := q.ask(api.MaxFuel); a.e != api.OK || a.n != want {
		t.Errorf("S3: %s by %v in %v: %d, error %d, not %d", f, u, r, a.n, a.e, want)
	}
	return expectFuel(t, q, map[int]int{})
}
