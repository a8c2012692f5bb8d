package notation_test

import (
	"strings"
	"testing"

	"primrose/api"
	"primrose/notation"
	"primrose/poly"
)

// expectTerms holds Parse against terms, in their order.
func expectTerms(t *testing.T, r api.Ring, s string, want ...api.Term) {
	t.Helper()
	if got, e := notation.Parse(r, s); e != api.OK || !isSame(got, want) {
		t.Errorf("Parse of %q: %v, error %d, not %v", short(s), got, e, want)
	}
}

// expectError holds Parse against an error, beside which there is nothing.
func expectError(t *testing.T, r api.Ring, s string, want api.Errno) {
	t.Helper()
	if got, e := notation.Parse(r, s); e != want || len(got) != 0 {
		t.Errorf("Parse of %q: %d terms, error %d, not %d", short(s), len(got), e, want)
	}
}

// expectEach holds Parse of each text in x and y against an error.
func expectEach(t *testing.T, want api.Errno, texts ...string) {
	t.Helper()
	for _, s := range texts {
		expectError(t, plane(), s, want)
	}
}

// expectLike holds Parse against what the tests read, in plain form.
func expectLike(t *testing.T, r api.Ring, s string) {
	t.Helper()
	got, e := notation.Parse(r, s)
	want, f := reference(r.Names, s)
	if e != f || e != api.OK && len(got) != 0 {
		t.Fatalf("Parse of %q in %v: %v, error %d, not %d", short(s), r, got, e, f)
	}
	if e == api.OK {
		expectSum(t, r, s, got, want)
	}
}

func expectSum(t *testing.T, r api.Ring, s string, got []api.Term, want sum) {
	t.Helper()
	if !poly.Right(r, got) || len(got) != len(want) {
		t.Fatalf("Parse of %q in %v: %v, not %v", short(s), r, got, want)
	}
	for _, term := range got {
		if c, ok := want[keyOf(term.E)]; !ok || c.Cmp(toBig(term.C)) != 0 {
			t.Fatalf("Parse of %q in %v: %v, not %v", short(s), r, got, want)
		}
	}
}

func TestH2Examples(t *testing.T) {
	r := plane()
	expectTerms(t, r, "-(x + 1)^2*2", of(-2, 2, 0), of(-4, 1, 0), of(-2, 0, 0))
	expectTerms(t, r, "3*x^2*y - 1/2*x + 5", of(3, 2, 1), over(-1, 2, 1, 0), of(5, 0, 0))
	expectEach(t, api.ErrForm, "2x", "x^", "007")
	expectEach(t, api.ErrName, "z")
	expectEach(t, api.ErrZero, "1/0")
	expectEach(t, api.ErrLong, "(x)^65")
}

func TestH2Numbers(t *testing.T) {
	r := plane()
	for _, s := range []string{"0", "-0", "0/5", "-0/1", "0*x", "x*0", "0*0", "x - x", "(0)", "(0)^3", "(x - x)^64", "1/2 - 2/4", "0*x^65536*x"} {
		expectTerms(t, r, s)
	}
	for _, x := range []struct {
		s        string
		num, den int
	}{
		{"1", 1, 1}, {"-1", -1, 1}, {"7", 7, 1}, {"10", 10, 1}, {"100200", 100200, 1}, {"9223372036854775807", 1<<63 - 1, 1},
		{"1/1", 1, 1}, {"2/1", 2, 1}, {"2/4", 1, 2}, {"-6/4", -3, 2}, {"12/3", 4, 1}, {"1/10", 1, 10},
		{"2*3", 6, 1}, {"1/2*2/3", 1, 3}, {"2/3*6", 4, 1}, {"2*3*4*5", 120, 1}, {"3*1/2*4", 6, 1},
		{"1 - 2", -1, 1}, {"1 - 2 - 3", -4, 1}, {"1 - 2 + 3", 2, 1}, {"-1 - 2", -3, 1}, {"-1 + 2", 1, 1}, {"-2*3 + 1", -5, 1}, {"1 + 2*3", 7, 1},
		{"(1 + 2)*3", 9, 1}, {"2*(1 - 2)", -2, 1}, {"1 - (2 - 3)", 2, 1}, {"-(1 - 2)", 1, 1}, {"(-3)^2", 9, 1}, {"(-3)^3", -27, 1}, {"-(3)^2", -9, 1},
		{"(1/2)^3", 1, 8}, {"(0)^0", 1, 1}, {"(x - x)^0", 1, 1}, {"(2)^62", 1 << 62, 1}, {"2*(3)^2", 18, 1}, {"((2)^3)^2", 64, 1},
		{"x^0", 1, 1}, {"0*x^0 + 1", 1, 1}, {"x^0*y^0", 1, 1}, {"(x + y)^0", 1, 1},
	} {
		expectTerms(t, r, x.s, over(x.num, x.den, 0, 0))
	}
}

func TestH2Polynomials(t *testing.T) {
	r := plane()
	expectTerms(t, r, "x", of(1, 1, 0))
	expectTerms(t, r, "-x", of(-1, 1, 0))
	expectTerms(t, r, "y*x*y", of(1, 1, 2))
	expectTerms(t, r, "x^3*x^4", of(1, 7, 0))
	expectTerms(t, r, "y + x", of(1, 1, 0), of(1, 0, 1))
	expectTerms(t, r, "y - x", of(-1, 1, 0), of(1, 0, 1))
	expectTerms(t, r, "-y - x", of(-1, 1, 0), of(-1, 0, 1))
	expectTerms(t, r, "x + x + x", of(3, 1, 0))
	expectTerms(t, r, "2*x*3*y*1/6", of(1, 1, 1))
	expectTerms(t, r, "1/2*x - 1/3*x", over(1, 6, 1, 0))
}

func TestH2Powers(t *testing.T) {
	r := plane()
	expectTerms(t, r, "x^2*y^3", of(1, 2, 3))
	expectTerms(t, r, "-x^2", of(-1, 2, 0))
	expectTerms(t, r, "2*x^2", of(2, 2, 0))
	expectTerms(t, r, "(-x)^3", of(-1, 3, 0))
	expectTerms(t, r, "(2*x)^2", of(4, 2, 0))
	expectTerms(t, r, "(x + y)^1", of(1, 1, 0), of(1, 0, 1))
	expectTerms(t, r, "(x + y)^2", of(1, 2, 0), of(2, 1, 1), of(1, 0, 2))
	expectTerms(t, r, "(x - y)^2*(x + y)", of(1, 3, 0), of(-1, 2, 1), of(-1, 1, 2), of(1, 0, 3))
	expectTerms(t, r, "((x + 1)^2 - 1)^2", of(1, 4, 0), of(4, 3, 0), of(4, 2, 0))
	expectTerms(t, r, "x*(y + 1)*(y - 1) - x*y^2", of(-1, 1, 0))
}

func TestH2Parentheses(t *testing.T) {
	r := plane()
	expectTerms(t, r, "((x))", of(1, 1, 0))
	expectTerms(t, r, "(((x)*2)*y)", of(2, 1, 1))
	expectTerms(t, r, "-(x - (y - (x - y)))", of(-2, 1, 0), of(2, 0, 1))
	expectTerms(t, r, "(x) - (y) - (-1)", of(1, 1, 0), of(-1, 0, 1), of(1, 0, 0))
	expectTerms(t, r, "(1/2)*(x)", over(1, 2, 1, 0))
}

func TestH2Names(t *testing.T) {
	r := rings(6)[0]
	expectTerms(t, r, "x1", of(1, 0, 0, 1, 0, 0, 0))
	expectTerms(t, r, "x*1", of(1, 1, 0, 0, 0, 0, 0))
	expectTerms(t, r, "x1^2*Zy*aB3dE6gH^3*A", of(1, 0, 0, 2, 1, 3, 1))
	expectTerms(t, r, "A*y - x", of(-1, 1, 0, 0, 0, 0, 0), of(1, 0, 1, 0, 0, 0, 1))
	for _, s := range []string{
		"z", "X", "Y", "a", "zy", "Z", "ZY", "xy", "yx", "x2", "x11", "x12", "x01", "x10", "xx1", "Zyx", "Zy1", "AA", "A1",
		"aB3dE6gh", "aB3dE6g", "aB3dE6gH1", "aB3dE6gHx", "ninechars", strings.Repeat("x", 100000), "x*z", "z*x", "z + x", "x - z", "(z)", "-z", "z^2", "2*z", "1/2*z",
	} {
		expectError(t, r, s, api.ErrName)
	}
	expectError(t, rings(1)[0], "y", api.ErrName)
}

// Spaces may stand before each part and at the end.
func TestH2Spaces(t *testing.T) {
	r := plane()
	parts := strings.Split("-|(|x|^|12|-|3|/|4|*|y|)|^|2|*|5|+|x|*|1|/|2", "|")
	want, e := notation.Parse(r, strings.Join(parts, ""))
	if e != api.OK || len(want) != 4 {
		t.Fatalf("without spaces: %v, error %d", want, e)
	}
	for _, spaces := range []string{" ", "  ", strings.Repeat(" ", 1000)} {
		expectTerms(t, r, strings.Join(parts, spaces), want...)
		expectTerms(t, r, spaces+strings.Join(parts, ""), want...)
		expectTerms(t, r, strings.Join(parts, "")+spaces, want...)
		expectTerms(t, r, spaces+strings.Join(parts, spaces)+spaces, want...)
		for k := range parts {
			expectTerms(t, r, strings.Join(parts[:k], "")+spaces+strings.Join(parts[k:], ""), want...)
		}
	}
	long := api.Ring{Names: []string{"ab", "a1", "b"}}
	for _, s := range []string{"b a1", "b 1", "1 2", "1 0", "0 1", "ab 1", "b^1 2", "1/1 2", "1 2/3", "ab a1", "ab ab", "(ab) b", "b (ab)", "2 b", "- - b"} {
		expectError(t, long, s, api.ErrForm)
	}
	for _, s := range []string{"a b", "a 1", "b + a b"} { // the name that is cut in two comes first
		expectError(t, long, s, api.ErrName)
	}
	expectEach(t, api.ErrForm, "", " ", "    ", "\t", "x\t", "\tx", "x\n", "x\r\n", "x +\ty", "x\v", "x\f", "x\u00a0", "\u00a0x", "x\u2003+ y", "x\x00", "\x00", "\x00x", "x+\x00y")
}

func TestH2Signs(t *testing.T) {
	expectEach(t, api.ErrForm, "+x", "--x", "- -x", "-", "+", "x+", "x-", "x--y", "x - -y", "x++y", "x+-y", "x-+y", "-+x", "+-x", "x*-1", "-x*-1", "x*+1", "x^-1", "x^+1", "1/-2", "1/+2", "(+x)", "(--x)", "(x-)", "(-)", "2*-x", "(x)^-1")
	expectTerms(t, plane(), "-x - y", of(-1, 1, 0), of(-1, 0, 1))
	expectTerms(t, plane(), "x*(-1)", of(-1, 1, 0))
	expectTerms(t, plane(), "(-x)*(-y)", of(1, 1, 1))
}

func TestH2Forms(t *testing.T) {
	expectEach(t, api.ErrForm,
		"()", "(", ")", "x)", "(x", "((x)", "(x))", ")x(", "x()", "(x)()", "(x)(y)", "x(y)", "(x)y", "(x)2", "2(x)", "2x", "2z", "x y", "1 1",
		"*", "*x", "x*", "x**y", "x*/y", "/", "/2", "1/", "1//2", "1/x", "1/(2)", "x/2", "(x)/2", "(1)/2", "x^2/2", "1/2/3", "1/2/",
		"^", "^2", "x^", "x^^2", "x^x", "x^(2)", "x^1/2", "x^2^3", "(x)^2^3", "(x)^", "(x)^x", "2^3", "1/2^3", "2^", "x^2x", "x^2(", "x^2y",
		"007", "00", "01", "-01", "0x", "00x", "1/00", "1/01", "01/2", "x^01", "x^00", "(x)^01", "(x)^00", "(01)", "x*01", "x+01", "x-00", "0 0",
		"$", "x$", "x+$", "x*$", "x^$", "(x$)", "1.5", "1,5", "x_1", "x[1]", "{x}", "x=y", "x;y", "'x'", "\"x\"", "x!", "x#", "x%y", "x&y", "x~y", "x|y", "x\\y", "x<y", "x@y", "x?", "x:y", "x`y",
		"é", "xé", "x+é", "x*é", "1é", "x^é", "x^2é", "é+x", "(é)", "x²", "٣", "x^٣", "1٣", "x^2٣", "−x", "x·y", "x×y", "\xff", "x\xff", "1\xff", "x^1\xff", "\x80", "x\xc3", "\xf0\x9f\x98\x80", "\u00aa", "x\u00aa", "\u212a", "x\uff11")
}

// More terms than a sum gathers before it is made plain.
func TestH2LongSums(t *testing.T) {
	for _, r := range rings(3) {
		s, text := noise(7), ""
		for range 3000 {
			text += []string{"+", " - "}[s.below(2)] + []string{"x", "y", "x1*2", "x*y", "3/7*x1^2", "5", "y^3*x"}[s.below(7)]
		}
		expectLike(t, r, "x^9"+text)
	}
	n := 5000
	text := strings.Repeat("x + 1/2*y - ", n) + "1"
	expectTerms(t, plane(), text, of(2-n, 1, 0), of(n/2, 0, 1), of(-1, 0, 0))
}
