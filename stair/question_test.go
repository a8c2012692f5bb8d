package stair_test

import (
	"slices"
	"strings"
	"testing"

	"primrose/api"
	"primrose/stair"
)

// calls are all calls of the package.
func calls() []string {
	return []string{"Dim", "Independent", "Below"}
}

// reply is what a call answers, or should answer.
type reply struct {
	dim   int     // of Dim
	set   []int   // of Independent
	below [][]int // of Below
	left  int
	e     api.Errno
}

func ask(call string, r api.Ring, f [][]api.Term, fuel int) (a reply) {
	switch call {
	case "Dim":
		a.dim, a.left, a.e = stair.Dim(r, f, fuel)
	case "Independent":
		a.set, a.left, a.e = stair.Independent(r, f, fuel)
	case "Below":
		a.below, a.left, a.e = stair.Below(r, f, fuel)
	default:
		panic(call)
	}
	return a
}

// found is the leading monomials of the basis as the words of the chapter find them.
type found struct {
	leads []key
	left  int
	e     api.Errno
}

func find(r api.Ring, f [][]api.Term, fuel int) (b found) {
	defer func() {
		if e, ok := recover().(api.Errno); ok {
			b = found{e: e}
		}
	}()
	c := &words{left: fuel}
	b.leads = c.leads(r, sumsOf(f))
	b.left = c.left
	return b
}

// wordsOf is what the words of the chapter answer.
func wordsOf(call string, r api.Ring, b found) (a reply) {
	if b.e != api.OK {
		return reply{e: b.e}
	}
	defer func() {
		if e, ok := recover().(api.Errno); ok {
			a = reply{e: e}
		}
	}()
	a.left = b.left
	switch set, ok := maximal(len(r.Names), b.leads); {
	case call == "Below":
		a.below = below(r, b.leads)
	case call == "Dim" && !ok:
		a.dim = -1
	case call == "Dim":
		a.dim = len(set)
	case !ok:
		panic(api.ErrWhole)
	default:
		a.set = set
	}
	return a
}

func areSameReplies(a, b reply) bool {
	return a.dim == b.dim && slices.Equal(a.set, b.set) && slices.EqualFunc(a.below, b.below, slices.Equal) && a.left == b.left && a.e == b.e
}

// expect holds a call against an answer.
func expect(t *testing.T, call string, r api.Ring, f [][]api.Term, fuel int, want reply) {
	t.Helper()
	if a := ask(call, r, f, fuel); !areSameReplies(a, want) {
		t.Fatalf("%s of %s in %v with %d: %v, not %v", call, printedList(r, f), r, fuel, a, want)
	}
}

// expectWords holds all calls against the words of the chapter, and returns what
// these answer, with an error if Dim has one.
func expectWords(t *testing.T, r api.Ring, f [][]api.Term, fuel int) (all reply) {
	t.Helper()
	b := find(r, f, fuel)
	for _, call := range calls() {
		want := wordsOf(call, r, b)
		expect(t, call, r, f, fuel, want)
		switch call {
		case "Dim":
			all = want
		case "Independent":
			all.set = want.set
		case "Below":
			all.below = want.below
		}
	}
	return all
}

// monomials are those of a text with blanks between them.
func monomials(t *testing.T, r api.Ring, text string) [][]int {
	t.Helper()
	var l [][]int
	for part := range strings.FieldsSeq(text) {
		p := parsed(t, r, part)
		if len(p) != 1 {
			t.Fatalf("%q is no monomial", part)
		}
		l = append(l, p[0].E)
	}
	return l
}

// known is an ideal, and what the calls answer.
type known struct {
	f     string
	dim   int
	set   []int
	below string // monomials with blanks between them; none if there are infinitely many
}

// long stands instead of more than 1000 monomials.
const long = "too many"

// expectKnown holds ideals in a ring against what is known of them.
func expectKnown(t *testing.T, r api.Ring, all []known) {
	t.Helper()
	for _, x := range all {
		f := parsedList(t, r, x.f)
		fuel := expectWords(t, r, f, api.MaxFuel).left
		expect(t, "Dim", r, f, api.MaxFuel, reply{dim: x.dim, left: fuel})
		switch {
		case x.dim < 0:
			expect(t, "Independent", r, f, api.MaxFuel, reply{e: api.ErrWhole})
		default:
			expect(t, "Independent", r, f, api.MaxFuel, reply{set: x.set, left: fuel})
		}
		switch {
		case x.dim > 0:
			expect(t, "Below", r, f, api.MaxFuel, reply{e: api.ErrPoint})
		case x.below == long:
			expect(t, "Below", r, f, api.MaxFuel, reply{e: api.ErrLong})
		default:
			expect(t, "Below", r, f, api.MaxFuel, reply{below: monomials(t, r, x.below), left: fuel})
		}
	}
}

// expectNothing expects nothing beside an error.
func expectNothing(t *testing.T, call string, r api.Ring, f [][]api.Term, fuel int, want api.Errno) {
	t.Helper()
	if a := ask(call, r, f, fuel); a.e != want || a.left != 0 || a.dim != 0 || a.set != nil || a.below != nil {
		t.Fatalf("%s of %v in %v with %d: %v, not %d", call, f, r, fuel, a, want)
	}
}

// expectError expects nothing beside an error of each call.
func expectError(t *testing.T, r api.Ring, f [][]api.Term, fuel int, want api.Errno) {
	t.Helper()
	for _, call := range calls() {
		expectNothing(t, call, r, f, fuel, want)
	}
}
