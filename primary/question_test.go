package primary_test

import (
	"fmt"
	"slices"
	"testing"

	"primrose/api"
	"primrose/primary"
)

// calls are all calls of the package; Least is Primes with least true.
func calls() []string {
	return []string{"Decompose", "Primes", "Least", "Radical", "Hull"}
}

// question is a call without its fuel.
type question struct {
	call string
	r    api.Ring
	f    [][]api.Term
}

func (q question) String() string {
	return fmt.Sprintf("%s of %s in %v", q.call, printedList(q.r, q.f), q.r)
}

// reply is what a call answers.
type reply struct {
	l    []api.Component
	p    [][][]api.Term
	g    [][]api.Term
	left int
	e    api.Errno
}

func (q question) ask(fuel int) (a reply) {
	switch q.call {
	case "Decompose":
		a.l, a.left, a.e = primary.Decompose(q.r, q.f, fuel)
	case "Primes":
		a.p, a.left, a.e = primary.Primes(q.r, q.f, false, fuel)
	case "Least":
		a.p, a.left, a.e = primary.Primes(q.r, q.f, true, fuel)
	case "Radical":
		a.g, a.left, a.e = primary.Radical(q.r, q.f, fuel)
	case "Hull":
		a.g, a.left, a.e = primary.Hull(q.r, q.f, fuel)
	default:
		panic(q.call)
	}
	return a
}

// printed is a reply's ideals as a text.
func (a reply) printed(r api.Ring) string {
	switch {
	case a.l != nil:
		return printedComponents(r, a.l)
	case a.p != nil:
		return printedLists(r, a.p)
	}
	return printedList(r, a.g)
}

func (q question) told(a reply) string {
	return fmt.Sprintf("%s, %d, error %d", a.printed(q.r), a.left, a.e)
}

// words is what the words of the chapter answer, but for the checks of arguments, and
// what they tell of their way.
func (q question) words(fuel int) (a reply, way told) {
	c := &words{r: q.r, left: fuel}
	defer func() {
		x := recover()
		if e, ok := x.(api.Errno); ok {
			a = reply{e: e}
		} else if x != nil {
			panic(x)
		}
		way = c.told
	}()
	switch q.call {
	case "Decompose":
		a.l = c.decompose(q.f)
	case "Primes":
		a.p = c.primes(q.f, false)
	case "Least":
		a.p = c.primes(q.f, true)
	case "Radical":
		a.g = c.radical(q.f)
	case "Hull":
		a.g = c.hull(q.f)
	default:
		panic(q.call)
	}
	a.left = c.left
	return a, way
}

// areSameReplies holds two replies against each other.
func areSameReplies(a, b reply) bool {
	isSameComponent := func(x, y api.Component) bool { return areSame(x.Q, y.Q) && areSame(x.P, y.P) }
	return a.e == b.e && a.left == b.left && slices.EqualFunc(a.l, b.l, isSameComponent) && slices.EqualFunc(a.p, b.p, areSame) && areSame(a.g, b.g)
}

// expect holds a call against an answer.
func expect(t *testing.T, q question, fuel int, want reply) {
	t.Helper()
	if a := q.ask(fuel); !areSameReplies(a, want) {
		t.Fatalf("%v with %d: %s, not %s", q, fuel, q.told(a), q.told(want))
	}
}

// expectNothing expects nothing beside an error.
func expectNothing(t *testing.T, q question, fuel int, want api.Errno) {
	t.Helper()
	expect(t, q, fuel, reply{e: want})
}

// expectWords holds a call against the words of the chapter, and returns what these
// answer and tell.
func expectWords(t *testing.T, q question, fuel int) (reply, told) {
	t.Helper()
	want, way := q.words(fuel)
	expect(t, q, fuel, want)
	return want, way
}
