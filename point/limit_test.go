package point_test

import (
	"fmt"
	"testing"

	"primrose/api"
)

// expectLong expects that a call is too great in one thing, in one of its bases or behind
// it, with so many polynomials that have been given to Factor. With one step less the
// error is ErrFuel.
func expectLong(t *testing.T, q question, fault string, bases, calls int) {
	t.Helper()
	a := expectWords(t, q, 2000)
	if a.e != api.ErrLong || a.fault != fault || a.bases != bases || a.calls != calls {
		t.Errorf("%v: error %d, %s %d, %d", q, a.e, a.fault, a.bases, a.calls)
		return
	}
	for _, fuel := range []int{len(a.places), len(a.places) + 1, api.MaxFuel} {
		expectNothing(t, q, fuel, api.ErrLong)
	}
	if len(a.places) > 0 {
		expectNothing(t, q, len(a.places)-1, api.ErrFuel)
		expectNothing(t, q, 0, api.ErrFuel)
	}
}

// Bases may be too great at each place, and so may the product of a contraction.
func TestLimitOfBases(t *testing.T) {
	t.Parallel()
	for _, c := range []struct {
		call                string
		names, order, first int
		f                   string
		u, form             []int
		fault               string
		bases, calls        int
	}{
		{"Least", 2, api.Lex, 0, "x + 2*y^40000; x^2", y, []int{-1}, "basis", 1, 0},
		{"Least", 2, api.Lex, 0, "x^40000*y + x", y, []int{0}, "basis", 2, 0},
		{"Least", 2, api.Lex, 0, "2*x^2; 2*x + y^60000", none, []int{-1, 0}, "basis", 3, 0},
		{"Least", 2, api.Grlex, 0, "x^40000 + x*y^2 + y", x, []int{-1}, "basis", 4, 0},
		{"Least", 2, api.Block, 1, "x + y^2; x^40000*y", x, []int{0}, "product", 1, 0},
		{"Radical", 2, api.Lex, 0, "x + 2*y^40000; x^2", y, nil, "basis", 1, 0},
		{"Radical", 3, api.Lex, 0, "x^2 - x; x^2*y^33000 + z^2 + z; x*y*z^3 - y*z^3", y, nil, "basis", 2, 0},
		{"Radical", 3, api.Block, 1, "x^2 - 1; x^3*y^60000 + z^3", y, nil, "basis", 3, 0},
		{"Radical", 3, api.Lex, 0, "x^2 + y^60000*z; z^2 - 1", y, nil, "basis", 4, 0},
		{"Radical", 3, api.Lex, 0, "x^2 + x; x*y^40000 + z^2", y, nil, "basis", 5, 1},
		{"Radical", 3, api.Grevlex, 0, "y^3 + 1; x^30000 + z^2 + y", x, nil, "basis", 5, 1},
		{"Radical", 3, api.Block, 2, "x*y^40000*z + x^2 + x; z^3 - z^2; x*y^20000*z^3 + x*y^20000*z^2", y, nil, "basis", 6, 2},
		{"Radical", 3, api.Grlex, 0, "x^2 - x; x*y^60000*z^2 + z^2 + z", y, nil, "product", 1, 0},
		{"Components", 3, api.Grlex, 0, "x^2 + x; x*y^40000*z + z^2", y, nil, "basis", 1, 0},
		{"Components", 3, api.Lex, 0, "x^2 - x; x^2*y^33000 + z^2 + z; x*y*z^3 - y*z^3", y, nil, "basis", 2, 0},
		{"Components", 2, api.Lex, 0, "2*x^2; 2*x + y^60000", none, nil, "basis", 3, 0},
		{"Components", 2, api.Lex, 0, "x^40000 + x*y^2 + y", x, nil, "basis", 4, 0},
		{"Components", 3, api.Block, 1, "x^2 + 2*y^40000*z; 2*z^2", y, nil, "basis", 5, 1},
		{"Components", 4, api.Grlex, 0, "x^3 + u; x*z^30000 + y^2", []int{2, 3}, nil, "basis", 9, 2},
		{"Components", 3, api.Block, 2, "y^33000*z^2 + x^2 - x; z^3", y, nil, "basis", 9, 2},
		{"Components", 3, api.Block, 2, "x^2; x*y^33000 + z^3 - z", y, nil, "basis", 14, 3},
		{"Components", 3, api.Lex, 0, "x^2; x*y^30000*z + z^2 - z", y, nil, "basis", 15, 4},
		{"Components", 3, api.Grevlex, 0, "x^2*y^60000*z^2 + x^2 - x; z^3", y, nil, "basis", 18, 4},
		{"Components", 3, api.Grevlex, 0, "x^2 - 2*x + 1; x^2*y^30000*z - x*y^30000*z + z^2 + z", y, nil, "basis", 24, 6},
		{"Components", 3, api.Lex, 0, "x^2*y^30000*z^3 + x^2*y^30000*z^2 + x^2 - 1; z^3 + 2*z^2 + z", y, nil, "basis", 42, 10},
		{"Components", 2, api.Block, 1, "x + y^2; x^40000*y", x, nil, "product", 1, 0},
	} {
		r := api.Ring{Names: letters(c.names), Order: c.order, First: c.first}
		expectLong(t, question{c.call, r, parsedList(t, r, c.f), c.u, c.form}, c.fault, c.bases, c.calls)
	}
}

// The greatest degrees that Factor takes, in the new variable and in those of u, and the
// next ones; and 12 factors, and one more. Least does without Factor.
func TestLimitOfFactor(t *testing.T) {
	t.Parallel()
	for _, c := range []struct {
		names        int
		most, beyond string
		u            []int
	}{
		{1, "x^255 - 2", "x^256 - 2", none}, {1, "x^255 + x + 1", "x^256 + x + 1", none}, {1, "x^12", "x^13", none}, {1, "(x^2 - 2)^12", "(x^2 - 2)^13", none},
		{2, "x^15 - y - 1", "x^16 - y - 1", y}, {2, "x - y^15 - 1", "x - y^16 - 1", y}, {2, "x^15 - y^15 - 2", "x^15 - y^16 - 2", y}, {2, "y^15 - x^15 - 2", "y^16 - x^15 - 2", x}, {2, "x^12 + x^12*y^3", "x^13", y},
		{3, "x^5 - y^5 - z^5 - 2", "x^6 - y^5 - z^5 - 2", yz}, {3, "x^5 - y^5 - z - 2", "x^5 - y^5 - z^6 - 2", yz}, {3, "y^5 - x*z^5 - 2", "y^5 - x^6 - z^5 - 2", xz},
		{4, "x^3 - y^2 - z^3 - u - 1", "x^4 - y^2 - z^3 - u - 1", []int{1, 2, 3}}, {4, "u^3 - y^2 - z^3 - x - 1", "u^3 - y^2 - z^3 - x^4 - 1", []int{0, 1, 2}},
		{5, "x^2 - y^2 - z - u - v", "x^3 - y - z - u - v", []int{1, 2, 3, 4}}, {5, "z^2 - y^2 - x - u - v", "z^2 - y - x - u - v^3", []int{0, 1, 3, 4}},
	} {
		r := lex(c.names)
		for _, call := range []string{"Radical", "Components"} {
			q := question{call, r, parsedList(t, r, c.most), c.u, nil}
			if a := expectWords(t, q, 2000); a.e != api.OK {
				t.Errorf("%v: error %d", q, a.e)
			}
			q.f = parsedList(t, r, c.beyond)
			expectLong(t, q, "factor", 4, 1)
			if a := expectWords(t, question{"Least", r, q.f, c.u, []int{-1}}, 2000); a.e != api.OK {
				t.Errorf("T1: %v: error %d", q, a.e)
			}
		}
	}
}

// sevens has 0 to 6 as the values of a variable.
func sevens(name string) string {
	text := name
	for k := 1; k < 7; k++ {
		text += fmt.Sprintf("*(%s - %d)", name, k)
	}
	return text
}

// What is too great for Factor comes at each of its places in a call: with the variables
// of a radical, in order; with the form; with the variables of the radical of the first Q
// and of a later one; and with a later form.
func TestPlaceOfFactor(t *testing.T) {
	t.Parallel()
	for _, c := range []struct {
		call         string
		names        int
		f            string
		u            []int
		bases, calls int
	}{
		{"Radical", 2, "x^13; y", none, 4, 1}, {"Radical", 2, "x; y^13", none, 5, 2}, {"Radical", 3, "x; y; z^13", none, 6, 3}, {"Radical", 3, "x; y^13; z^13", none, 5, 2},
		{"Radical", 3, "x^2 - y; z^16 - y - 1", y, 5, 2}, {"Radical", 3, "x^16 - y - 1; z^16 - y - 1", y, 4, 1}, {"Radical", 2, "x^13", none, 4, 1},
		{"Components", 2, "x^13; y", none, 4, 1}, {"Components", 2, "x; y^13", none, 9, 3}, {"Components", 3, "x; y; z^13", none, 10, 4}, {"Components", 3, "x^2 - y; z^16 - y - 1", y, 9, 3},
		// The first Q is x - 1 and y, the second one x + 1 and y^13.
		{"Components", 2, "x^2 - 1; y*(x + 1); y^13", none, 18, 5},
		// 0 and 1, and 0 to 6: the first form fails, the second one has 8 values, and fails at 6, the third one has 14.
		{"Components", 2, "x^2 - x; " + sevens("y"), none, 42, 11},
	} {
		r := lex(c.names)
		expectLong(t, question{c.call, r, parsedList(t, r, c.f), c.u, nil}, "factor", c.bases, c.calls)
	}
}

// A degree of 1000 is no error, but makes the attempt fail; one more is.
func TestLimitOfDegree(t *testing.T) {
	t.Parallel()
	r := lex(2)
	for _, c := range []struct {
		f     string
		fault string
	}{{"x^40 + x + 1; y^25 + y + 1", "basis"}, {"x^40 + x + 1; y^26 + y + 1", "degree"}, {"x^7 - 2; y^143 - y - 1", "degree"}, {"x^8 - 2; y^125 - 2", "basis"}} {
		q := question{"Components", r, parsedList(t, r, c.f), nil, nil}
		a := expectWords(t, q, 600)
		if a.fault != c.fault || len(a.failed) > 0 != (c.fault == "basis") || a.e == api.OK {
			t.Errorf("T3: %v: error %d, %s, %v", q, a.e, a.fault, a.failed)
		}
		if c.fault == "degree" {
			expectLong(t, q, "degree", 13, 3)
		}
	}
}

// Exponents at the limit.
func TestAtTheLimit(t *testing.T) {
	t.Parallel()
	for _, r := range rings(2) {
		for _, c := range []struct {
			f    string
			u    []int
			form []int
			want string
		}{
			{"x - y^65536", y, []int{1}, "t - y^65536"}, {"x*y^65536 - 1", y, []int{1}, "t*y^65536 - 1"}, {"x^2 - y^65536", y, []int{-2}, "t^2 - 4*y^65536"}, {"x*y^65536", y, []int{1}, "t"}, {"x^65536*y", x, []int{3}, "t"},
		} {
			expectWordsAre(t, question{"Least", r, parsedList(t, r, c.f), c.u, c.form}, c.want)
		}
	}
	q := question{"Least", lex(1), parsedList(t, lex(1), "x^65536 - 2"), none, []int{1}}
	a := expectWordsAre(t, q, "t^65536 - 2")
	expectNothing(t, q, len(a.places)-1, api.ErrFuel)
	a.left = 0
	expect(t, q, len(a.places), a)
}

// expectWordsAre expects that the words answer a polynomial of the thin ring, and the
// call, too.
func expectWordsAre(t *testing.T, q question, want string) answer {
	t.Helper()
	a := expectWords(t, q, api.MaxFuel)
	if a.e != api.OK || printed(q.thin(), a.p.terms(q.thin())) != want {
		t.Errorf("T1: %v: error %d, not %s", q, a.e, want)
	}
	return a
}
