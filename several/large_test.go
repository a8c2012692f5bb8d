package several_test

import (
	"math/big"
	"slices"
	"testing"

	"primrose/api"
	"primrose/factor"
	"primrose/several"
)

// border is a polynomial with one variable to the power of n, and 3 besides; it is
// irreducible, as another variable stands in it once, if there is another one.
func border(variables, i, n int) sum {
	if variables == 1 {
		return plus(power(0, n), constant(rat(-2, 1)))
	}
	return plus(plus(power(i, n), power((i+1)%variables, 1)), constant(rat(3, 1)))
}

// longImage is the image, however long it is.
func longImage(variables, side int, p sum) []api.Int {
	f := []api.Int{}
	for k, c := range p {
		place, step := 0, 1
		for i := range variables {
			place += k[i] * step
			step *= side
		}
		for len(f) <= place {
			f = append(f, api.Int{})
		}
		f[place] = toRat(c).Num
	}
	return f
}

// The side to the power of the number of variables may be 256, but not more, also
// if the image is easily factored.
func TestN3Side(t *testing.T) {
	for n, side := range []int{0, 256, 16, 6, 4, 3, 2} {
		if n == 0 {
			continue
		}
		for _, r := range rings(n) {
			for _, i := range []int{0, n - 1} {
				p := border(n, i, side-1)
				expectFactors(t, r, p.terms(r), rat(1, 1), []known{{p, 1}})
			}
			expectError(t, r, border(n, n-1, side).terms(r), api.ErrLong)
			expectError(t, r, border(n, 0, side).terms(r), api.ErrLong)
			expectError(t, r, scaled(border(n, 0, side), rat(-2, 3)).terms(r), api.ErrLong)
			expectError(t, r, power(0, side).terms(r), api.ErrLong)
		}
		_, l, e := factor.Factor(longImage(n, side+1, border(n, 0, side)))
		if e != api.OK || len(l) != 1 {
			t.Errorf("the image in %d variables is not easily factored: %v, %d", n, l, e)
		}
	}
}

// What cancels doesn't count, and neither does the order of the terms.
func TestN3SideOfPlainForm(t *testing.T) {
	r := lex(2)
	high := parsed(t, r, "x^65536*y^300")
	p := parsed(t, r, "x^2 - y^2")
	p = slices.Concat(high, p, parsed(t, r, "-x^65536*y^300"))
	expectFactors(t, r, p, rat(1, 1), []known{{sumOf(parsed(t, r, "x - y")), 1}, {sumOf(parsed(t, r, "x + y")), 1}})
	p[0].C = api.Rat{}
	expectError(t, r, p, api.ErrLong)
}

// Powers of the side that are much greater than an int can be.
func TestN3HighSides(t *testing.T) {
	for _, r := range allRings() {
		n := len(r.Names)
		for _, exponent := range []int{256, 257, 1<<11 - 1, 1<<13 - 1, 1<<16 - 1, 1 << 16} {
			for i := range n {
				for _, p := range []sum{power(i, exponent), border(n, i, exponent)} {
					if n > 1 || exponent < 3000 {
						expectError(t, r, p.terms(r), api.ErrLong)
					}
				}
			}
		}
		all := []api.Term{{C: toRat(rat(1, 1)), E: slices.Repeat([]int{limit}, n)}}
		expectError(t, r, all, api.ErrLong)
	}
}

// There may be 12 factors of the image, counted with multiplicity.
func TestN3TwelveFactors(t *testing.T) {
	for _, x := range []struct {
		variables int
		text      string
		want      string // or nothing
	}{
		{1, "x^12", "1 | x : 12"},
		{1, "x^13", ""},
		{1, "-2*x^11*(x + 1)", "-2 | x : 11 | x + 1"},
		{1, "-2*x^12*(x + 1)", ""},
		{1, "x^6*(x - 1)^6", "1 | x : 6 | x - 1 : 6"},
		{1, "x^6*(x - 1)^7", ""},
		{1, "(x^2 + 1)^5*(x + 1)^4*(x - 3)^3", "1 | x - 3 : 3 | x + 1 : 4 | x^2 + 1 : 5"},
		{1, "(x^2 + 1)^5*(x + 1)^4*(x - 3)^4", ""},
		{1, "(x^2 - 2)^12", "1 | x^2 - 2 : 12"},
		{1, "(x^2 - 2)^13", ""},
		{1, "(x^3 - 2)^2*(x^2 - 2)^10", "1 | x^2 - 2 : 10 | x^3 - 2 : 2"},
		{2, "x^12", "1 | x : 12"},
		{2, "x^13", ""},
		{2, "x^15", ""},
		{2, "5*x^5*y", "5 | y | x : 5"}, // t^11
		{2, "5*x^6*y", ""},              // t^13
		{2, "y^3", "1 | y : 3"},         // t^12
		{2, "x*y^3", ""},
		{2, "y^3*(x + 1)", ""},
		{2, "x^2*y^2", "1 | y : 2 | x : 2"}, // t^8
		{2, "x^3*y^3", ""},
		{2, "y^4", ""}, // t^20
		{2, "y^4 + 1", "1 | y^4 + 1"},
		{2, "(x + y)^4", "1 | x + y : 4"}, // (t + t^5)^4: three in each
		{2, "(x - y)^3", "1 | x - y : 3"}, // (t - t^4)^3: three in each
		{2, "x^8 - y^8", ""},              // 8 and 7
		{2, "x^12*y^13 - 1", "1 | x^12*y^13 - 1"},
		{3, "z", "1 | z"}, // t^4
		{3, "x*y*z", "1 | z | y | x"},
		{3, "y^2", "1 | y : 2"}, // t^6
		{3, "z^2", ""},          // t^18
		{3, "x^2*y^2", "1 | y : 2 | x : 2"},
		{4, "-1/2*z*u", "-1/2 | u | z"}, // t^12
		{4, "x*z*u", ""},
		{4, "z*u + 1", "1 | z*u + 1"},
		{5, "u", "1 | u"}, // t^8
		{5, "v", ""},      // t^16
		{5, "v + 1", "1 | v + 1"},
		{5, "2*y*z*v - 6", "2 | y*z*v - 3"},
		{6, "x*y*z", "1 | z | y | x"},
		{6, "w", ""}, // t^32
		{6, "w + 1", "1 | w + 1"},
		{6, "w - 1", "1 | w - 1"},
	} {
		r := lex(x.variables)
		if x.want == "" {
			expectError(t, r, parsed(t, r, x.text), api.ErrLong)
		} else {
			expectTold(t, r, x.text, x.want)
		}
	}
}

// The image may be one that layer 13 refuses.
func TestN3RefusedImage(t *testing.T) {
	two := func(n uint, d int64) *big.Rat { // 2^n + d
		z := new(big.Int).Lsh(big.NewInt(1), n)
		return new(big.Rat).SetInt(z.Add(z, big.NewInt(d)))
	}
	s := noise(11)
	for _, r := range allRings() {
		x := power(0, 1)
		for _, d := range []int64{-1, 0, 1} {
			good, bad := plus(x, constant(two(997, d))), plus(x, constant(two(998, d)))
			expectFactors(t, r, good.terms(r), rat(1, 1), []known{{good, 1}})
			expectError(t, r, s.loose(r, bad), api.ErrLong)
			expectError(t, r, s.loose(r, scaled(bad, rat(-1, 7))), api.ErrLong)
			// A number that all coefficients share doesn't count.
			expectFactors(t, r, scaled(x, two(5000, d)).terms(r), two(5000, d), []known{{x, 1}})
		}
	}
	for _, text := range []string{"x^4*y^4 + 4", "x^10*y^14 - 1", "x^12*y^12 - 1"} {
		r := lex(2)
		p := parsed(t, r, text)
		if f, _, ok := image(r, sumOf(p)); !ok {
			t.Errorf("%s has no image", text)
		} else if _, _, e := factor.Factor(f); e != api.ErrLong {
			t.Errorf("the image of %s: %d", text, e)
		}
		expectError(t, r, p, api.ErrLong)
	}
}

// Divide and Primitive know no such limits.
func TestLimitsOfFactorAlone(t *testing.T) {
	for _, r := range allRings() {
		n := len(r.Names)
		p := scaled(border(n, 0, 1<<15), rat(-2, 3))
		if n == 1 {
			p = scaled(border(n, 0, 300), rat(-2, 3))
		}
		expectPrimitive(t, r, p.terms(r), primitive(r, p), content(r, p))
		expectQuotient(t, r, times(p, p).terms(r), p.terms(r), p)
		if _, _, e := several.Factor(r, p.terms(r)); e != api.ErrLong {
			t.Errorf("N3: in %v: %d", r, e)
		}
	}
}
