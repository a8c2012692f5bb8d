package ideal_test

import (
	"testing"

	"primrose/api"
	"primrose/ideal"
)

// calls are all calls of the package.
func calls() []string {
	return []string{"Member", "Subset", "Sum", "Product", "Eliminate", "Meet", "Quotient", "Saturate"}
}

// hasOne reports whether a call has one polynomial instead of h.
func hasOne(call string) bool {
	return call == "Member" || call == "Saturate"
}

// question is a call without its fuel. If it has a polynomial p, that is the only
// element of h.
type question struct {
	call string
	r    api.Ring
	f, h [][]api.Term
	k    int // of Eliminate
}

// reply is what a call answers.
type reply struct {
	g       [][]api.Term
	is      bool
	s, left int
	e       api.Errno
}

func (q question) ask(fuel int) (a reply) {
	switch q.call {
	case "Member":
		a.is, a.left, a.e = ideal.Member(q.r, q.h[0], q.f, fuel)
	case "Subset":
		a.is, a.left, a.e = ideal.Subset(q.r, q.f, q.h, fuel)
	case "Sum":
		a.g, a.left, a.e = ideal.Sum(q.r, q.f, q.h, fuel)
	case "Product":
		a.g, a.left, a.e = ideal.Product(q.r, q.f, q.h, fuel)
	case "Eliminate":
		a.g, a.left, a.e = ideal.Eliminate(q.r, q.f, q.k, fuel)
	case "Meet":
		a.g, a.left, a.e = ideal.Meet(q.r, q.f, q.h, fuel)
	case "Quotient":
		a.g, a.left, a.e = ideal.Quotient(q.r, q.f, q.h, fuel)
	case "Saturate":
		a.g, a.s, a.left, a.e = ideal.Saturate(q.r, q.f, q.h[0], fuel)
	default:
		panic(q.call)
	}
	return a
}

// answer is what a call should answer.
type answer struct {
	g       []sum
	is      bool
	s, left int
	e       api.Errno
	fault   int // in which of the bases and divisions the error occurs, from 1 on
}

// words is what the words of the chapter answer.
func (q question) words(fuel int) (a answer) {
	c := &words{left: fuel}
	defer func() {
		if x := recover(); x != nil {
			a = answer{e: x.(api.Errno), fault: c.fault}
		}
	}()
	f, h := sumsOf(q.f), sumsOf(q.h)
	switch q.call {
	case "Member":
		a.is = c.contains(q.r, f, h)
	case "Subset":
		a.is = c.contains(q.r, h, f)
	case "Sum":
		a.g = c.basis(q.r, append(f, h...))
	case "Product":
		a.g = c.product(q.r, f, h)
	case "Eliminate":
		a.g = c.eliminate(q.r, f, q.k)
	case "Meet":
		a.g = c.intersect(q.r, f, h)
	case "Quotient":
		a.g = c.quotient(q.r, f, h)
	case "Saturate":
		a.g, a.s = c.saturate(q.r, f, h[0])
	default:
		panic(q.call)
	}
	a.left = c.left
	return a
}

// expect holds a call against an answer.
func expect(t *testing.T, q question, fuel int, want answer) {
	t.Helper()
	a := q.ask(fuel)
	if a.e != want.e || a.left != want.left || a.is != want.is || a.s != want.s || !areForms(q.r, a.g, want.g) || a.e != api.OK && a.g != nil {
		t.Fatalf("%s of %s and %s, %d in %v with %d: %s, %t, %d, %d, %d, not %s, %t, %d, %d, %d", q.call, printedList(q.r, q.f), printedList(q.r, q.h), q.k, q.r, fuel,
			printedList(q.r, a.g), a.is, a.s, a.left, a.e, printedList(q.r, termsOf(q.r, want.g)), want.is, want.s, want.left, want.e)
	}
}

// expectWords holds a call against the words of the chapter, and returns what these
// answer.
func expectWords(t *testing.T, q question, fuel int) answer {
	t.Helper()
	want := q.words(fuel)
	expect(t, q, fuel, want)
	return want
}

// expectFuel holds a call with each amount of fuel up to what it needs, and some
// more, against what it answers with all of it. It returns the number of steps, and
// counts in places in which of the call's bases and divisions the fuel ends.
func expectFuel(t *testing.T, q question, places map[int]int) (steps int) {
	t.Helper()
	all := expectWords(t, q, api.MaxFuel)
	if all.e != api.OK {
		t.Fatalf("%s of %s and %s: %d", q.call, printedList(q.r, q.f), printedList(q.r, q.h), all.e)
	}
	steps = api.MaxFuel - all.left
	for fuel := range steps {
		expect(t, q, fuel, answer{e: api.ErrFuel})
		if steps <= 250 {
			places[expectWords(t, q, fuel).fault]++
		}
	}
	for _, more := range []int{0, 1, 2, 1000, api.MaxFuel - steps - 1, api.MaxFuel - steps} {
		all.left = more
		expect(t, q, steps+more, all)
	}
	return steps
}

// example is a question in texts, and what it is answered.
type example struct {
	f, h     string
	k        int
	g        string
	is       bool
	s, steps int
}

// expectExamples holds questions in a ring against their answers, with each amount
// of fuel.
func expectExamples(t *testing.T, call string, r api.Ring, all []example) {
	t.Helper()
	for _, x := range all {
		q := question{call, r, parsedList(t, r, x.f), parsedList(t, r, x.h), x.k}
		expect(t, q, x.steps, answer{g: sumsOf(parsedList(t, r, x.g)), is: x.is, s: x.s})
		if steps := expectFuel(t, q, map[int]int{}); steps != x.steps {
			t.Errorf("%v in %v takes %d steps", x, r, steps)
		}
	}
}
