package notation_test

import (
	"strconv"
	"strings"
	"testing"

	"primrose/api"
	"primrose/notation"
)

// digits is a number of so many digits.
func digits(n int) string {
	return strings.Repeat("7", n)
}

// powers is a sum of so many terms, the powers of a variable from 1 = x^0 on.
func powers(name string, n int) string {
	var all []string
	for i := range n {
		all = append(all, name+"^"+strconv.Itoa(i))
	}
	return strings.Join(all, "+")
}

// nested is a text in so many parentheses.
func nested(n int, s string) string {
	return strings.Repeat("(", n) + s + strings.Repeat(")", n)
}

// expectFits holds that a text in x and y has so many terms.
func expectFits(t *testing.T, s string, terms int) {
	t.Helper()
	if got, e := notation.Parse(plane(), s); e != api.OK || len(got) != terms {
		t.Errorf("Parse of %q: %d terms, error %d, not %d terms", short(s), len(got), e, terms)
	}
}

func TestH2Digits(t *testing.T) {
	most, more := digits(10000), digits(10001)
	for _, s := range []string{most, "-" + most, "x*" + most, "1 + " + most, "(" + most + ")", "1/" + most, most + "/3", "1" + strings.Repeat("0", 9999)} {
		expectLike(t, plane(), s)
	}
	expectFits(t, most, 1)
	expectTerms(t, plane(), most+"/"+most, of(1, 0, 0))
	expectTerms(t, plane(), most+" - "+most)
	expectEach(t, api.ErrLong, more, "-"+more, "x*"+more, "1 + "+more, "("+more, "1/"+more, "x*1/"+more, more+"/0", more+"/x", more+"$", digits(100000), "1"+strings.Repeat("0", 10000))
	expectEach(t, api.ErrForm, "0"+most, "0"+more, strings.Repeat("0", 10000), strings.Repeat("0", 10001), "1/0"+more, "x^0"+more, "x 1"+more)
	// As an exponent.
	expectEach(t, api.ErrLong, "x^"+most, "x^"+more, "(x)^"+most, "(x)^"+more, "(0)^"+more, "x^1"+strings.Repeat("0", 9999))
	expectEach(t, api.ErrName, "x"+more)
}

func TestH2Zero(t *testing.T) {
	expectEach(t, api.ErrZero, "1/0", "0/0", "x + 1/0", "x*1/0", "1/0*x", "0*1/0", "(1/0)", "-1/0", "1 / 0", digits(10000)+"/0", "1/0 + 1/0")
}

func TestH2ExponentsOfNames(t *testing.T) {
	r := plane()
	for i, s := range []string{"1", "x", "x^2", "x^3"} {
		expectTerms(t, r, "x^"+strconv.Itoa(i), sure(t, r, s)...)
	}
	expectTerms(t, r, "x^65535", of(1, limit-1, 0))
	expectTerms(t, r, "x^65536", of(1, limit, 0))
	expectTerms(t, r, "x^65536*y^65536", of(1, limit, limit))
	expectTerms(t, r, "-x^65536 + y^65536", of(-1, limit, 0), of(1, 0, limit))
	expectEach(t, api.ErrLong, "x^65537", "y^65537", "x*y^65537", "0*x^65537", "x^100000", "x^4294967296", "x^4294967297", "x^9223372036854775807", "x^9223372036854775808", "x^18446744073709551616", "x^18446744073709551617", "x^340282366920938463463374607431768211456", "(x^65537)^0", "x^65537^2")
}

// sure is Parse of what is tested elsewhere.
func sure(t *testing.T, r api.Ring, s string) []api.Term {
	t.Helper()
	p, e := notation.Parse(r, s)
	if e != api.OK {
		t.Fatalf("Parse of %q: error %d", short(s), e)
	}
	return p
}

func TestH2ExponentsOfParentheses(t *testing.T) {
	r := plane()
	expectTerms(t, r, "(x)^0", of(1, 0, 0))
	expectTerms(t, r, "(x)^1", of(1, 1, 0))
	expectTerms(t, r, "(x)^63", of(1, 63, 0))
	expectTerms(t, r, "(x)^64", of(1, 64, 0))
	expectTerms(t, r, "((x)^64)^64", of(1, 4096, 0))
	expectTerms(t, r, "((x^1)^64)^0", of(1, 0, 0))
	expectTerms(t, r, "(0)^64")
	expectFits(t, "(x + y)^64", 65)
	expectLike(t, r, "(x - 1/2*y)^64")
	expectEach(t, api.ErrLong, "(x)^65", "(x + y)^65", "(0)^65", "(1)^65", "(x)^100", "(x)^65536", "(x)^65537", "(x)^4294967296", "(x)^18446744073709551616", "((x)^65)^0", "((x)^0)^65")
}

func TestH2Depth(t *testing.T) {
	r := plane()
	expectTerms(t, r, nested(49, "x"), of(1, 1, 0))
	expectTerms(t, r, nested(50, "x"), of(1, 1, 0))
	expectTerms(t, r, nested(50, "x")+"*"+nested(50, "-x"), of(-1, 2, 0))
	expectTerms(t, r, strings.Repeat("-(", 49)+"x"+strings.Repeat(")", 49), of(-1, 1, 0))
	expectLike(t, r, strings.Repeat("1 - y*(x - ", 50)+"2*x"+strings.Repeat(")", 50))
	expectTerms(t, r, strings.Repeat("((x)) + ", 100)+"x", of(101, 1, 0))
	expectEach(t, api.ErrLong, nested(51, "x"), nested(52, "x"), nested(100000, "x"), strings.Repeat("(", 51), strings.Repeat("(", 1000000), strings.Repeat("(", 51)+"$", strings.Repeat("-(", 51), nested(50, "x*(y)"), nested(50, "x + (y"), strings.Repeat(" ( ", 51), nested(50, "x")+"*"+nested(51, "x"))
	expectEach(t, api.ErrForm, strings.Repeat("(", 50), strings.Repeat("(", 50)+")", nested(50, "x(y)"), nested(50, ""), nested(50, "x")+")", strings.Repeat("(", 50)+"x"+strings.Repeat(")", 49), nested(50, "x")+"(")
	expectEach(t, api.ErrName, nested(50, "z"), strings.Repeat("(", 50)+"z*(")
}

// Numbers of terms whose product is 4096, or just beyond.
func TestH2Pairs(t *testing.T) {
	times := func(m, n int) string { return "(" + powers("x", m) + ")*(" + powers("y", n) + ")" }
	expectFits(t, times(64, 64), 4096)
	expectFits(t, times(1, 4096), 4096)
	expectFits(t, times(4096, 1), 4096)
	expectFits(t, times(2, 2048), 4096)
	expectFits(t, times(63, 65), 4095)
	for _, x := range [][2]int{{17, 241}, {241, 17}, {1, 4097}, {4097, 1}, {64, 65}, {65, 64}, {2, 2049}, {100, 100}} {
		expectEach(t, api.ErrLong, times(x[0], x[1]), "0*x + "+times(x[0], x[1]), times(x[0], x[1])+"*0")
	}
	// Only a product has the limit: neither a sum nor parentheses have, nor what is 0.
	expectFits(t, powers("x", 5000), 5000)
	expectFits(t, "("+powers("x", 4097)+")", 4097)
	expectFits(t, "-(("+powers("x", 4097)+")) + y", 4098)
	expectFits(t, "0*("+powers("x", 5000)+")", 0)
	expectFits(t, "("+powers("x", 5000)+")*(y - y)", 0)
	// The terms are those of the plain polynomials.
	expectFits(t, "("+strings.Repeat("x + y + ", 5000)+"x)*("+powers("y", 2048)+")", 4096/2+1+2047)
	expectFits(t, "("+powers("x", 4096)+" + x^7)*y", 4096)
	expectFits(t, "("+powers("x", 4097)+" - x^7)*y", 4096)
	expectEach(t, api.ErrLong, "("+powers("x", 4097)+" - 2*x^7)*y", "2*("+powers("x", 4097)+")", "1*("+powers("x", 4097)+")", "x*("+powers("x", 4097)+")")
	// Of three factors the first two are multiplied first.
	expectFits(t, "("+powers("x", 64)+")*("+powers("x", 64)+")*("+powers("x", 32)+")", 64+63+31)
	expectEach(t, api.ErrLong, "("+powers("x", 64)+")*("+powers("y", 64)+")*(x + y)", "("+powers("x", 64)+")*("+powers("x", 64)+")*("+powers("x", 33)+")")
}

// A power is made of products that begin with 1.
func TestH2PairsInPowers(t *testing.T) {
	expectFits(t, "("+powers("x", 4097)+")^0", 1)
	expectFits(t, "("+powers("x", 4096)+")^1", 4096)
	expectFits(t, "("+powers("x", 64)+")^2", 127)
	expectFits(t, "("+powers("x", 64)+" - y^3)^0", 1)
	expectFits(t, "("+powers("x", 26)+")^7", 25*7+1)
	expectFits(t, "(x + y + 1)^51", 52*53/2)
	expectEach(t, api.ErrLong,
		"("+powers("x", 4097)+")^1", "("+powers("x", 4097)+")^2", "("+powers("x", 65)+")^2", "("+powers("x", 64)+")^3",
		"(x + y + 1)^52", "(x + y + 1)^64", "(x + y)^63*(x+y)^64", "((x + y + 1)^26)^4", "("+powers("x", 4097)+" - y^3)^1*0")
}

func TestH2ExponentsOfProducts(t *testing.T) {
	r := plane()
	expectTerms(t, r, "x^65535*x", of(1, limit, 0))
	expectTerms(t, r, "x*x^65535", of(1, limit, 0))
	expectTerms(t, r, "x^32768*x^32768*y", of(1, limit, 1))
	expectTerms(t, r, "x^65536*y^65536*x^0", of(1, limit, limit))
	expectTerms(t, r, "x^65536*(x - x)")
	expectTerms(t, r, "0*x^65536*x^65536")
	expectTerms(t, r, "(x - x)*x^65536*x^65536")
	expectTerms(t, r, strings.Repeat("x*", 65535)+"x", of(1, limit, 0))
	expectTerms(t, r, "(x^65535 + y)*(x + y^65535)", sure(t, r, "x^65536 + x^65535*y^65535 + x*y + y^65536")...)
	expectTerms(t, r, "(x^65536 - x^65536 + x)*x^65535", of(1, limit, 0))
	expectEach(t, api.ErrLong,
		"x^65536*x", "x*x^65536", "x^32768*x^32769", "x^65536*x*0", "x^65536*x - x^65536*x", "x^65536*y^65536*y", "x^65535*(x^2 + y)", "(y + x^65535)*(x^2 + y)",
		"x^65536*x^65536", strings.Repeat("x*", 65536)+"x", "(x^65536)*(x)", "2*x^65536*3*x")
	// Within a power.
	expectTerms(t, r, "(x^1024)^64", of(1, limit, 0))
	expectTerms(t, r, "(2*x^32768*y)^2", of(4, limit, 2))
	expectTerms(t, r, "(x^65536)^1", of(1, limit, 0))
	expectTerms(t, r, "(x^65536)^0", of(1, 0, 0))
	expectFits(t, "(x^1024 + y)^64", 65)
	expectEach(t, api.ErrLong, "(x^1025)^64", "(x^65536)^2", "(x^32769)^2", "(x^1025 + y)^64", "(y - x^32769)^2", "(x^65536)^64", "((x^64)^32)^33", "x*(x^1024)^64", "(x^1024)^64*x")
}

// Of two errors the first that occurs is answered.
func TestH2First(t *testing.T) {
	many := "(" + powers("x", 4097) + ")"
	long := digits(10001)
	for want, texts := range map[api.Errno][]string{
		api.ErrForm: {
			"2z", "x z", "2z^65537", "x^z", "1/z", "1/00", "x(z)", "x)1/0", "+1/0", "*z", "0" + long, "1/0" + long, "007/0", "x$ + z", "2 z + 1/0",
			// The right factor has not been read yet.
			"x^65536*x^", "x^65536*x^$", "x^65536*x^01", "x^65536*(x", "x^65536*(x)^", "x^65536*(x+", many + "*1/", many + "*", many + "*$", many + "*(1", many + "^", many + "^$", many + "^01",
			"(x)^64^65", "x^2^65537", "1/2/0", "2^65537", "x^65536 x", "x^65536*+x", "x^65536(x)",
		},
		api.ErrName: {
			"z", "z^65537", "z^", "z^z", "z$", "z(", "z)", "z 1/0", "z*1/0", "z*(", "z + 007", "x*z^65537", "(z)^65", "(z", "x^65536*z", "x^65536*(z)", many + "*z", "(z + 1/0)", "x + z*" + long,
			"z" + long, "zé", "x^65536*(x + z", strings.Repeat("(", 50) + "z(",
		},
		api.ErrZero: {
			"1/0", "1/0z", "1/0*z", "1/0$", "1/0/0", "1/0(", "1/0^2", "1/0 0", "(1/0)^65", "(1/0", "x^65536*1/0", many + "*1/0", "1/0 + " + long, "x - 1/0 - z", "1/0)",
		},
		api.ErrLong: {
			"x^65537z", "x^65537$", "x^65537*z", "x^65537^", "x^65537*1/0", "(x)^65z", "(x)^65$", "(x)^65^2", "(x)^65*z", "(x)^65)", long + "z", long + "/0", long + "$", "1/" + long + "z", long + " 007", "x^" + long + "z",
			"x^65536*x$", "x^65536*x z", "x^65536*x*z", "x^65536*x + z", "x^65536*x)", "(x^65536*x", "(x^65536*x$", "x^65536*x*1/0", "x^65536*x/2", "x^65536*x 1", "x^65536*x*", "x^65536*x +", "x^65536*x-",
			"x^65536*(x)$", "x^65536*(x)z", "x^65536*(x)/2", "x^65536*(x)(", "x^65536*x^1^", "x^65536*x^1z", "x^65536*(x)^1^2", "x^65536*x(",
			"(x^65536)^2$", "(x^65536)^2^3", "(x^65536)^2z", "(x^65536)^2*z", "((x^65536)^2", "x*(x^65536)^2$",
			many + "*2$", many + "*2z", many + "*2*z", many + "*2 + 1/0", many + "*2^3", many + "*1/2/", many + "*1/2$", "2*" + many + "$", "2*" + many + "z", many + "^1$", many + "^1*z", many + "^2^",
			strings.Repeat("(", 51) + "z", strings.Repeat("(", 51) + "1/0", strings.Repeat("(", 51) + "$", strings.Repeat("(", 51) + ")",
		},
	} {
		for _, s := range texts {
			expectError(t, plane(), s, want)
			if _, e := reference(names(2), s); e != want {
				t.Errorf("the reference of %q: error %d, not %d", short(s), e, want)
			}
		}
	}
}

// A wrong ring comes before all errors of the text.
func TestH2Rings(t *testing.T) {
	for _, r := range wrongRings() {
		for _, s := range []string{"", "x", "1", "0", "z", "1/0", "(x)^65", "x y", "$"} {
			expectError(t, r, s, api.ErrRing)
		}
	}
	for _, r := range allRings() {
		expectTerms(t, r, "0")
		expectTerms(t, r, "1 - x^0")
		expectError(t, r, "", api.ErrForm)
		expectError(t, r, "q", api.ErrName)
	}
}
