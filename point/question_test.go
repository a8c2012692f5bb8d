package point_test

import (
	"fmt"
	"slices"
	"testing"

	"primrose/api"
	"primrose/point"
)

// calls are all calls of the package.
func calls() []string {
	return []string{"Least", "Radical", "Components"}
}

// question is a call without its fuel. Only Least has a form.
type question struct {
	call string
	r    api.Ring
	f    [][]api.Term
	u    []int
	form []int
}

func (q question) String() string {
	return fmt.Sprintf("%s of %s by %v with %v in %v", q.call, printedList(q.r, q.f), q.u, q.form, q.r)
}

// reply is what a call answers.
type reply struct {
	p    []api.Term
	g    [][]api.Term
	l    []api.Component
	left int
	e    api.Errno
}

func (q question) ask(fuel int) (a reply) {
	switch q.call {
	case "Least":
		a.p, a.left, a.e = point.Least(q.r, q.f, q.u, q.form, fuel)
	case "Radical":
		a.g, a.left, a.e = point.Radical(q.r, q.f, q.u, fuel)
	case "Components":
		a.l, a.left, a.e = point.Components(q.r, q.f, q.u, fuel)
	default:
		panic(q.call)
	}
	return a
}

// thin is the ring of the result of Least.
func (q question) thin() api.Ring {
	return aroundOf(q.r, q.u).thin
}

// told is a reply as a text.
func (q question) told(a reply) string {
	text := ""
	switch {
	case a.p != nil:
		text = printed(q.thin(), a.p)
	case a.g != nil:
		text = printedList(q.r, a.g)
	}
	for _, x := range a.l {
		text += "(" + printedList(q.r, x.Q) + " | " + printedList(q.r, x.P) + ")"
	}
	return fmt.Sprintf("%s, %d, error %d", text, a.left, a.e)
}

// answer is what a call should answer.
type answer struct {
	p      sum // nil if there is none
	g      []sum
	l      []component
	left   int
	e      api.Errno
	bases  int
	fault  string // what the error occurs in
	places []int  // the basis in which each step is taken
	factored
}

// words is what the words of the chapter answer, but for the checks of arguments.
func (q question) words(fuel int) (a answer) {
	c := &words{left: fuel}
	defer func() {
		x := recover()
		if e, ok := x.(api.Errno); ok {
			a = answer{e: e}
		} else if x != nil {
			panic(x)
		}
		a.bases, a.fault, a.places, a.factored = c.bases, c.fault, c.places, c.factored
	}()
	w := aroundOf(q.r, q.u)
	g := c.start(w, sumsOf(q.f))
	switch q.call {
	case "Least":
		a.p = c.least(w, g, numbers(q.form))
	case "Radical":
		a.g = c.radical(w, g)
	case "Components":
		a.l = c.components(w, g)
	default:
		panic(q.call)
	}
	a.left = c.left
	return a
}

// isAnswer holds what a call answers against what it should.
func (q question) isAnswer(a reply, want answer) bool {
	if a.e != want.e || a.left != want.left {
		return false
	}
	if want.p == nil && a.p != nil || want.g == nil && a.g != nil || want.l == nil && a.l != nil {
		return false
	}
	isSameComponent := func(x api.Component, y component) bool {
		return areForms(q.r, x.Q, y.q) && areForms(q.r, x.P, y.p)
	}
	return (want.p == nil || isForm(q.thin(), a.p, want.p)) && areForms(q.r, a.g, want.g) && slices.EqualFunc(a.l, want.l, isSameComponent)
}

// asReply is an answer as a reply.
func (q question) asReply(w answer) reply {
	a := reply{left: w.left, e: w.e}
	if w.p != nil {
		a.p = w.p.terms(q.thin())
	}
	if w.g != nil {
		a.g = termsOf(q.r, w.g)
	}
	for _, x := range w.l {
		a.l = append(a.l, api.Component{Q: termsOf(q.r, x.q), P: termsOf(q.r, x.p)})
	}
	return a
}

// expect holds a call against an answer.
func expect(t *testing.T, q question, fuel int, want answer) {
	t.Helper()
	if a := q.ask(fuel); !q.isAnswer(a, want) {
		t.Fatalf("%v with %d: %s, not %s (%s)", q, fuel, q.told(a), q.told(q.asReply(want)), want.fault)
	}
}

// expectWords holds a call against the words of the chapter, and returns what these
// answer.
func expectWords(t *testing.T, q question, fuel int) answer {
	t.Helper()
	want := q.words(fuel)
	expect(t, q, fuel, want)
	return want
}

// expectFuel holds a call with each amount of fuel up to what it needs, and some more,
// against what it answers with all of it. It returns the number of steps, and counts in
// places in which of the call's bases the fuel ends.
func expectFuel(t *testing.T, q question, places map[int]int) (steps int) {
	t.Helper()
	all := expectWords(t, q, api.MaxFuel)
	for fuel := range len(all.places) {
		expectNothing(t, q, fuel, api.ErrFuel)
		places[all.places[fuel]]++
	}
	return expectEnough(t, q, all)
}

// expectEnds is expectFuel with one step too few in each of the call's bases alone.
func expectEnds(t *testing.T, q question) (steps int) {
	t.Helper()
	all := expectWords(t, q, api.MaxFuel)
	ends := map[int]int{}
	for k, place := range all.places {
		ends[place] = k
	}
	for _, fuel := range ends {
		expectNothing(t, q, fuel, api.ErrFuel)
	}
	return expectEnough(t, q, all)
}

// expectEnough holds a call with as much fuel as it needs, and more, against what it
// answers with all of it. It returns the number of steps.
func expectEnough(t *testing.T, q question, all answer) (steps int) {
	t.Helper()
	steps = len(all.places)
	if all.e == api.OK && all.left != api.MaxFuel-steps {
		t.Fatalf("%v: %d steps, but %d are left", q, steps, all.left)
	}
	for _, more := range []int{0, 1, 2, 1000, api.MaxFuel - steps - 1, api.MaxFuel - steps} {
		if all.e == api.OK {
			all.left = more
		}
		expect(t, q, steps+more, all)
	}
	return steps
}

// expectNothing expects nothing beside an error.
func expectNothing(t *testing.T, q question, fuel int, want api.Errno) {
	t.Helper()
	expect(t, q, fuel, answer{e: want})
}

// expectSoon expects an error as soon as there is so much fuel, and ErrFuel before.
func expectSoon(t *testing.T, q question, steps int, want api.Errno) {
	t.Helper()
	for fuel := range steps {
		expectNothing(t, q, fuel, api.ErrFuel)
	}
	for _, fuel := range []int{steps, steps + 1, 1000, api.MaxFuel} {
		expectNothing(t, q, fuel, want)
	}
}

// eachCall are the questions that all calls make of an ideal; the form is one of as
// many integers as there are other variables.
func eachCall(r api.Ring, f [][]api.Term, u []int) []question {
	form := []int{3, -2, 0, 1, 7, 1, 1}[:max(0, len(r.Names)-len(u))]
	return []question{{"Least", r, f, u, form}, {"Radical", r, f, u, nil}, {"Components", r, f, u, nil}}
}

// expectError expects nothing beside an error of each call.
func expectError(t *testing.T, r api.Ring, f [][]api.Term, u []int, fuel int, want api.Errno) {
	t.Helper()
	for _, q := range eachCall(r, f, u) {
		expectNothing(t, q, fuel, want)
	}
}
