package notation_test

import (
	"slices"
	"strings"
	"testing"

	"primrose/api"
	"primrose/fraction"
	"primrose/notation"
	"primrose/poly"
)

// All texts of up to 5 of these parts.
func TestH2ShortTexts(t *testing.T) {
	parts := []string{"x", "z", "0", "2", "/", "^", "*", "+", "-", "(", ")", " "}
	texts := []string{""}
	for range 5 {
		var longer []string
		for _, s := range texts {
			for _, part := range parts {
				longer = append(longer, s+part)
			}
		}
		for _, s := range longer {
			expectLike(t, plane(), s)
		}
		texts = longer
	}
}

// Each byte at each place of good texts, in place of the one there and before it.
func TestH2EachByte(t *testing.T) {
	for _, s := range []string{"-3*x^2*y - 1/2*x + 5", "-(x + 1 )^2*2", " x1 * ( y ) ^ 1 ", "12/34*(-y)", ""} {
		for i := range len(s) + 1 {
			for b := range 256 {
				c := string([]byte{byte(b)})
				expectLike(t, rings(3)[0], s[:i]+c+s[i:])
				if i < len(s) {
					expectLike(t, rings(3)[0], s[:i]+c+s[i+1:])
				}
			}
			expectLike(t, rings(3)[0], s[:i])
			expectLike(t, rings(3)[0], s[i:])
		}
	}
}

// expression makes the text of an expression that looks like chance.
func (s *noise) expression(names []string, depth int) string {
	text := []string{"", "", "-"}[s.below(3)]
	for k := range 1 + s.below(3) {
		if k > 0 {
			text += []string{"+", " + ", "-", " - "}[s.below(4)]
		}
		text += s.factor(names, depth)
		for range s.below(3) {
			text += []string{"*", " *", "* "}[s.below(3)] + s.factor(names, depth)
		}
	}
	return text
}

func (s *noise) factor(names []string, depth int) string {
	numbers := []string{"0", "1", "2", "3", "10", "7", "12", "4294967296", "99999999999999999999"}
	switch k := s.below(9); {
	case k < 2:
		return numbers[s.below(len(numbers))]
	case k == 2:
		return numbers[s.below(len(numbers))] + "/" + numbers[1+s.below(len(numbers)-1)]
	case k < 5 || depth == 0:
		return names[s.below(len(names))]
	case k == 5:
		return names[s.below(len(names))] + "^" + []string{"0", "1", "2", "5"}[s.below(4)]
	case k == 6:
		return "(" + s.expression(names, depth-1) + ")^" + []string{"0", "1", "2", "3"}[s.below(4)]
	}
	return "(" + s.expression(names, depth-1) + ")"
}

func TestH2Expressions(t *testing.T) {
	for i, r := range allRings() {
		s := noise(i)
		for range 50 {
			expectLike(t, r, s.expression(r.Names, 3))
		}
	}
}

// Parts that go wrong in one way or another, one behind the other.
func TestH2Fragments(t *testing.T) {
	parts := []string{
		"x", "y", "x1", "z", "2", "0", "1/0", "1/3", "007", "(", ")", "(x+y)^", "^2", "^65", "(y)^64", "^65537", "x^65536", "*x^65535", "*y^9", "(x^9000)^8", "(x^1000)^3",
		"+", "-", "*", "/", "^", " ", " - ", " + ", "*", "*", "(x+y+1)^2", "*(x-1)", "+x", "-y*", "$", "\x00", "\xc3\xa9", "((", "))", "12", "(1", "0*(",
	}
	s := noise(3)
	for range 40000 {
		text := ""
		for range 1 + s.below(8) {
			text += parts[s.below(len(parts))]
		}
		expectLike(t, rings(3)[2], text)
	}
}

// Neither arguments nor earlier results are modified, and no two lists of a
// result share memory.
func TestH2Memory(t *testing.T) {
	r := api.Ring{Names: []string{"x", "y"}, Order: api.Grevlex}
	for _, s := range []string{"x", "x + y", "2*(x + y)^2 - 1/3", "(x)", "-x", "1/2", strings.Repeat("x + ", 200) + "y"} {
		first, again := sure(t, r, s), sure(t, r, s)
		for k := range first {
			x := &first[k]
			fill(x.C.Num.Mag[:cap(x.C.Num.Mag)])
			fill(x.C.Den[:cap(x.C.Den)])
			for i := range x.E[:cap(x.E)] {
				x.E[:cap(x.E)][i] = 77
			}
			if !isSame(first[k+1:], again[k+1:]) {
				t.Errorf("terms of %q share memory", short(s))
			}
		}
		expectTerms(t, r, s, again...)
	}
	if !slices.Equal(r.Names, []string{"x", "y"}) {
		t.Errorf("names are modified to %v", r.Names)
	}
}

func fill(a []uint32) {
	for i := range a {
		a[i] = top
	}
}

// A result depends on its arguments alone, also after an error.
func TestH2NoState(t *testing.T) {
	r := plane()
	for _, wrong := range []string{"(x", "z", "1/0", "(x)^65", nested(51, "x"), "$"} {
		_, before := notation.Parse(r, wrong)
		expectTerms(t, r, nested(50, "x + 1"), of(1, 1, 0), of(1, 0, 0))
		expectError(t, r, wrong, before)
	}
}

// expectBack holds that Parse undoes Print, and answers the text of the plain
// polynomial.
func expectBack(t *testing.T, r api.Ring, p []api.Term) string {
	t.Helper()
	want, e := poly.Norm(r, p)
	text, f := notation.Print(r, p)
	if e != api.OK || f != api.OK {
		t.Fatalf("Print of %v: error %d, Norm: error %d", p, f, e)
	}
	expectTerms(t, r, text, want...)
	return text
}

func TestH3Undoes(t *testing.T) {
	for i, r := range allRings() {
		n := len(r.Names)
		for _, p := range samples(n) {
			expectBack(t, r, p)
		}
		s := noise(100 + i)
		for range 30 {
			expectBack(t, r, s.list(n, 1+s.below(20), 3))
			expectBack(t, r, s.list(n, 1+s.below(20), limit+1))
		}
	}
}

// More terms than products may have.
func TestH3UndoesLong(t *testing.T) {
	s := noise(5)
	for _, r := range rings(3) {
		text := expectBack(t, r, s.list(3, 10000, 40))
		if len(text) < 50000 {
			t.Errorf("a text of %d bytes", len(text))
		}
	}
}

// Numbers of 10000 digits can be read again; beyond that Parse answers ErrLong.
func TestH3Digits(t *testing.T) {
	r := plane()
	for _, s := range []string{digits(10000), "1/" + digits(10000), "-" + digits(10000) + "*x*y - " + digits(9999) + "/" + strings.Repeat("9", 10000)} {
		expectBack(t, r, sure(t, r, s))
	}
	greater := sure(t, r, digits(10000)+"*10*x")
	text, e := notation.Print(r, greater)
	if e != api.OK || text != digits(10000)+"0*x" {
		t.Errorf("%q, error %d", short(text), e)
	}
	expectError(t, r, text, api.ErrLong)
	inverse, _ := fraction.Div(fraction.Of(1), greater[0].C)
	text, _ = notation.Print(r, []api.Term{{C: inverse, E: []int{0, 0}}})
	expectError(t, r, text, api.ErrLong)
}

// Print of what Parse returns has one text for all texts of a polynomial.
func TestH3OneText(t *testing.T) {
	for i, r := range allRings() {
		s := noise(200 + i)
		for range 50 {
			text := expectBack(t, r, sure(t, r, s.expression(r.Names, 1)))
			if again := expectBack(t, r, sure(t, r, text)); again != text {
				t.Errorf("the text of %q is %q", short(text), short(again))
			}
		}
	}
}

// Different polynomials have different texts.
func TestH3Different(t *testing.T) {
	for _, r := range rings(2) {
		texts := map[string][]api.Term{}
		for code := range 5 * 5 * 5 * 5 * 5 {
			var p []api.Term
			for _, e := range [][]int{{0, 0}, {1, 0}, {0, 1}, {1, 1}, {0, 12}} {
				c := []api.Rat{rat(0, 1), rat(1, 1), rat(-1, 1), rat(1, 2), rat(12, 1)}[code%5]
				p = append(p, api.Term{C: c, E: e})
				code /= 5
			}
			text, e := notation.Print(r, p)
			if q, ok := texts[text]; ok || e != api.OK {
				t.Fatalf("%q, error %d, is the text of %v and of %v", text, e, p, q)
			}
			texts[text] = p
		}
	}
}

// Spaces around signs make no difference.
func TestH3Spaces(t *testing.T) {
	for i, r := range allRings() {
		s := noise(300 + i)
		for range 20 {
			text := s.expression(r.Names, 1)
			want := sure(t, r, text)
			for _, spaces := range []string{"", " ", "    "} {
				changed := strings.ReplaceAll(text, " ", "")
				for _, mark := range []string{"+", "-", "*", "/", "^", "(", ")"} {
					changed = strings.ReplaceAll(changed, mark, spaces+mark+spaces)
				}
				expectTerms(t, r, changed, want...)
			}
		}
	}
}
