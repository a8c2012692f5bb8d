package several_test

import (
	"math/big"
	"testing"

	"primrose/api"
	"primrose/several"
)

// expectPrimitive holds an answer for a list of terms against what it has to be.
func expectPrimitive(t *testing.T, r api.Ring, l []api.Term, want sum, c *big.Rat) {
	t.Helper()
	p, by, e := several.Primitive(r, l)
	if e != api.OK || !isForm(r, p, want) || !isRat(by, c) {
		t.Fatalf("N2: Primitive of %s in %v: %s, %v, %d, not %s, %v", printed(r, l), r, printed(r, p), toBig(by), e, printed(r, want.terms(r)), c)
	}
}

func TestN2Examples(t *testing.T) {
	for _, x := range []struct {
		p, want  string
		num, den int64
	}{
		{"x + y", "x + y", 1, 1},
		{"-x - y", "x + y", -1, 1},
		{"-x + y", "x - y", -1, 1},
		{"2*x - 2/3*y", "3*x - y", 2, 3},
		{"4*x^2 - 6*y", "2*x^2 - 3*y", 2, 1},
		{"-4*x^2 + 6*y - 10", "2*x^2 - 3*y + 5", -2, 1},
		{"1/2*x + 1/3*y + 1/5", "15*x + 10*y + 6", 1, 30},
		{"1/4*x + 1/6*y", "3*x + 2*y", 1, 12},
		{"-3/4*x + 9/10", "5*x - 6", -3, 20},
		{"6*x + 10*y + 15", "6*x + 10*y + 15", 1, 1},
		{"6*x + 10*y + 14/3", "9*x + 15*y + 7", 2, 3},
		{"5", "1", 5, 1},
		{"-5", "1", -5, 1},
		{"-2/7", "1", -2, 7},
		{"1", "1", 1, 1},
		{"-1", "1", -1, 1},
		{"-3*x*y", "x*y", -3, 1},
		{"1/9*y^2", "y^2", 1, 9},
	} {
		for _, r := range rings(2) {
			expectPrimitive(t, r, parsed(t, r, x.p), sumOf(parsed(t, r, x.want)), rat(x.num, x.den))
		}
	}
}

// Which coefficient is the leading one hangs on the order.
func TestN2Orders(t *testing.T) {
	for _, x := range []struct {
		r    api.Ring
		p    string
		sign int64
	}{
		{api.Ring{Names: letters(2), Order: api.Lex}, "x - y^2", 1},
		{api.Ring{Names: letters(2), Order: api.Grlex}, "x - y^2", -1},
		{api.Ring{Names: letters(2), Order: api.Grevlex}, "x - y^2", -1},
		{api.Ring{Names: letters(2), Order: api.Block, First: 1}, "x - y^2", 1},
		{api.Ring{Names: letters(3), Order: api.Lex}, "x*z - y^2", 1},
		{api.Ring{Names: letters(3), Order: api.Grlex}, "x*z - y^2", 1},
		{api.Ring{Names: letters(3), Order: api.Grevlex}, "x*z - y^2", -1},
		{api.Ring{Names: letters(3), Order: api.Block, First: 1}, "x*z - y^2", 1},
		{api.Ring{Names: letters(3), Order: api.Block, First: 2}, "x*z - y^2", -1},
		{api.Ring{Names: []string{"y", "x"}, Order: api.Lex}, "x^3 - y", -1},
	} {
		p := sumOf(parsed(t, x.r, x.p))
		for _, n := range []int64{1, 7} {
			by := rat(x.sign, n)
			expectPrimitive(t, x.r, scaled(p, rat(1, n)).terms(x.r), scaled(p, rat(x.sign, 1)), by)
			expectFactors(t, x.r, scaled(p, rat(1, n)).terms(x.r), by, []known{{scaled(p, rat(x.sign, 1)), 1}})
		}
	}
}

func TestN2Polynomials(t *testing.T) {
	s := noise(4)
	for _, r := range allRings() {
		for n := range 60 {
			p := sum{}
			for len(p) == 0 || s.below(5) > 0 {
				q := s.sample(len(r.Names), 1+n%4, 2+n%5, 6)
				p = plus(p, scaled(q, s.fraction(1+n)))
			}
			c := content(r, p)
			expectPrimitive(t, r, s.loose(r, p), scaled(p, new(big.Rat).Inv(c)), c)
			expectPrimitive(t, r, s.loose(r, primitive(r, p)), primitive(r, p), rat(1, 1))
		}
	}
}

func TestN2GreatCoefficients(t *testing.T) {
	s, r := noise(5), lex(2)
	for digits := 1; digits < 4000; digits = digits*3/2 + 1 {
		for _, c := range []*big.Rat{s.fraction(digits), s.fraction(3 * digits)} {
			expectPrimitive(t, r, s.loose(r, constant(c)), constant(rat(1, 1)), c)
			for _, q := range []sum{bilinear(-1, 3, 5, 2), power(1, limit), plus(power(0, limit), constant(rat(-2, 1)))} {
				expectPrimitive(t, r, s.loose(r, scaled(q, c)), q, c)
			}
		}
	}
}

// Many different denominators.
func TestN2Denominators(t *testing.T) {
	r, p := lex(1), sum{}
	for n := range 200 {
		p.add(key{n}, rat(1, int64(n+1)))
	}
	c := content(r, p)
	expectPrimitive(t, r, p.terms(r), scaled(p, new(big.Rat).Inv(c)), c)
}
