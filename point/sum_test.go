package point_test

import (
	"fmt"
	"maps"
	"math"
	"math/big"
	"slices"
	"strings"
	"testing"

	"primrose/api"
	"primrose/fraction"
	"primrose/mono"
	"primrose/notation"
)

// limit is the greatest exponent.
const limit = 1 << 16

// letters returns so many names of one letter.
func letters(n int) []string {
	return strings.Split("xyzuvw"[:n], "")
}

// lex is a ring with the order Lex.
func lex(n int) api.Ring {
	return api.Ring{Names: letters(n), Order: api.Lex}
}

// rings returns the valid rings of n variables, of all orders.
func rings(n int) []api.Ring {
	all := []api.Ring{lex(n), {Names: letters(n), Order: api.Grlex}, {Names: letters(n), Order: api.Grevlex}}
	for first := 1; first < n; first++ {
		all = append(all, api.Ring{Names: letters(n), Order: api.Block, First: first})
	}
	return all
}

// allRings are the valid rings of 1 to 6 variables.
func allRings() []api.Ring {
	var all []api.Ring
	for n := 1; n <= 6; n++ {
		all = append(all, rings(n)...)
	}
	return all
}

// noise makes numbers that look like chance, the same in each run.
type noise uint64

func (s *noise) below(n int) int {
	*s = *s*6364136223846793005 + 1442695040888963407
	return int(*s>>33) % n
}

// great makes a number of at most that many binary digits, with either sign, but
// not 0.
func (s *noise) great(digits int) *big.Int {
	z := big.NewInt(1)
	for range digits/31 + 1 {
		z.Add(z.Lsh(z, 31), big.NewInt(int64(s.below(1<<31))))
	}
	z.Rsh(z, uint(z.BitLen()-max(1, 1+s.below(digits))))
	if s.below(2) == 0 {
		z.Neg(z)
	}
	return z
}

func (s *noise) fraction(digits int) *big.Rat {
	return new(big.Rat).SetFrac(s.great(digits), s.great(digits))
}

func fromLimbs(a []uint32) *big.Int {
	z := new(big.Int)
	for i := len(a) - 1; i >= 0; i-- {
		z.Lsh(z, 32)
		z.Or(z, big.NewInt(int64(a[i])))
	}
	return z
}

func toLimbs(z *big.Int) []uint32 {
	var l []uint32
	mask := big.NewInt(math.MaxUint32)
	for rest := new(big.Int).Abs(z); rest.Sign() > 0; rest.Rsh(rest, 32) {
		l = append(l, uint32(new(big.Int).And(rest, mask).Uint64()))
	}
	return l
}

func toBig(x api.Rat) *big.Rat {
	num, den := fromLimbs(x.Num.Mag), fromLimbs(x.Den)
	if den.Sign() == 0 {
		return new(big.Rat)
	}
	if x.Num.Neg {
		num.Neg(num)
	}
	return new(big.Rat).SetFrac(num, den)
}

// toRat returns the plain fraction.
func toRat(x *big.Rat) api.Rat {
	return api.Rat{Num: api.Int{Neg: x.Sign() < 0, Mag: toLimbs(x.Num())}, Den: toLimbs(x.Denom())}
}

func rat(num, den int64) *big.Rat {
	return big.NewRat(num, den)
}

func inverse(x *big.Rat) *big.Rat {
	return new(big.Rat).Inv(x)
}

// key is a monomial without regard to the ring.
type key [6]int

// over divides two monomials, and reports whether it can.
func (k key) over(l key) (key, bool) {
	for i := range k {
		k[i] -= l[i]
		if k[i] < 0 {
			return key{}, false
		}
	}
	return k, true
}

// times multiplies two monomials.
func (k key) times(l key) key {
	for i := range k {
		k[i] += l[i]
	}
	return k
}

// sum is a polynomial as the tests reckon: coefficients, none of them 0.
type sum map[key]*big.Rat

func (s sum) add(k key, c *big.Rat) {
	total := new(big.Rat).Set(c)
	if old, ok := s[k]; ok {
		total.Add(total, old)
	}
	if total.Sign() == 0 {
		delete(s, k)
	} else {
		s[k] = total
	}
}

func sumOf(p []api.Term) sum {
	s := sum{}
	for _, t := range p {
		var k key
		copy(k[:], t.E)
		s.add(k, toBig(t.C))
	}
	return s
}

func sumsOf(l [][]api.Term) []sum {
	all := make([]sum, len(l))
	for i, p := range l {
		all[i] = sumOf(p)
	}
	return all
}

func constant(c *big.Rat) sum {
	s := sum{}
	s.add(key{}, c)
	return s
}

func plus(s, t sum) sum {
	all := maps.Clone(s)
	for k, c := range t {
		all.add(k, c)
	}
	return all
}

func times(s, t sum) sum {
	all := sum{}
	for k, c := range s {
		for l, d := range t {
			all.add(k.times(l), new(big.Rat).Mul(c, d))
		}
	}
	return all
}

func minus(s, t sum) sum {
	return plus(s, times(t, constant(rat(-1, 1))))
}

func isSame(s, t sum) bool {
	return maps.EqualFunc(s, t, func(x, y *big.Rat) bool { return x.Cmp(y) == 0 })
}

// isLong reports whether an exponent is too great.
func isLong(s sum) bool {
	for k := range s {
		if slices.Max(k[:]) > limit {
			return true
		}
	}
	return false
}

// cmpKeys compares two monomials in the order of the ring.
func cmpKeys(r api.Ring, a, b key) int {
	n := len(r.Names)
	return mono.Cmp(r, a[:n], b[:n])
}

// lead is the leading monomial.
func lead(r api.Ring, s sum) key {
	return slices.MaxFunc(slices.Collect(maps.Keys(s)), func(a, b key) int { return cmpKeys(r, a, b) })
}

// terms is the plain list of a polynomial.
func (s sum) terms(r api.Ring) []api.Term {
	var l []api.Term
	for k, c := range s {
		l = append(l, api.Term{C: toRat(c), E: slices.Clone(k[:len(r.Names)])})
	}
	slices.SortFunc(l, func(a, b api.Term) int { return mono.Cmp(r, b.E, a.E) })
	return l
}

// termsOf are the plain lists of polynomials.
func termsOf(r api.Ring, l []sum) [][]api.Term {
	all := make([][]api.Term, len(l))
	for i, s := range l {
		all[i] = s.terms(r)
	}
	return all
}

// loose makes a polynomial's terms as they need not be: in no order, some of them
// divided into several or beside a 0, and their coefficients not plain.
func (s *noise) loose(r api.Ring, p sum) []api.Term {
	l := p.terms(r)
	for range s.below(4) {
		c, e := toRat(s.fraction(20)), make([]int, len(r.Names))
		if len(l) > 0 && s.below(2) == 0 {
			e = slices.Clone(l[s.below(len(l))].E)
		}
		switch s.below(3) {
		case 0:
			l = append(l, api.Term{E: e})
		case 1:
			l = append(l, api.Term{C: api.Rat{Num: c.Num, Den: []uint32{0}}, E: e})
		case 2:
			l = append(l, api.Term{C: c, E: e}, api.Term{C: fraction.Neg(c), E: slices.Clone(e)})
		}
	}
	for k := range l {
		if len(l[k].C.Den) > 0 && s.below(2) == 0 {
			l[k].C = s.unplain(l[k].C)
		}
		other := s.below(k + 1)
		l[k], l[other] = l[other], l[k]
	}
	return l
}

// inOrder makes terms that are in order, with other forms of their coefficients
// and perhaps a 0 behind the first one, whose exponents may be great ones.
func (s *noise) inOrder(r api.Ring, p sum) []api.Term {
	l := p.terms(r)
	for k := range l {
		if s.below(2) == 0 {
			l[k].C = s.unplain(l[k].C)
		}
	}
	n := len(r.Names)
	zero := api.Term{C: api.Rat{Den: []uint32{3}}, E: make([]int, n)}
	zero.E[n-1] = s.below(limit + 1)
	for k := 1; k <= len(l); k++ {
		if mono.Cmp(r, l[k-1].E, zero.E) > 0 && (k == len(l) || mono.Cmp(r, zero.E, l[k].E) > 0) {
			return slices.Insert(l, k, zero)
		}
	}
	return l
}

// anyForm makes a polynomial's terms in one of these forms.
func (s *noise) anyForm(r api.Ring, p sum) []api.Term {
	switch s.below(4) {
	case 0:
		return p.terms(r)
	case 1:
		return s.inOrder(r, p)
	}
	return s.loose(r, p)
}

func (s *noise) anyForms(r api.Ring, l []sum) [][]api.Term {
	all := make([][]api.Term, len(l))
	for i, p := range l {
		all[i] = s.anyForm(r, p)
	}
	return all
}

// unplain makes another form of the same fraction.
func (s *noise) unplain(x api.Rat) api.Rat {
	by := new(big.Int).Abs(s.great(40))
	num := toLimbs(new(big.Int).Mul(fromLimbs(x.Num.Mag), by))
	den := toLimbs(new(big.Int).Mul(fromLimbs(x.Den), by))
	num = append(num, make([]uint32, s.below(3))...)
	return api.Rat{Num: api.Int{Neg: x.Num.Neg, Mag: num}, Den: append(den, make([]uint32, s.below(3))...)}
}

// sample makes a polynomial in n variables of at most so many terms, perhaps 0,
// with exponents below high and coefficients of so many binary digits.
func (s *noise) sample(n, terms, high, digits int) sum {
	p := sum{}
	for range terms {
		var k key
		for i := range n {
			k[i] = s.below(high)
		}
		c := new(big.Rat).SetInt(s.great(digits))
		if s.below(2) == 0 {
			c = s.fraction(digits)
		}
		p.add(k, c)
	}
	return p
}

func (s *noise) samples(count, n, terms, high, digits int) []sum {
	all := make([]sum, count)
	for i := range all {
		all[i] = s.sample(n, s.below(terms+1), high, digits)
	}
	return all
}

// isRat reports whether x is c in plain form.
func isRat(x api.Rat, c *big.Rat) bool {
	want := toRat(c)
	return x.Num.Neg == want.Num.Neg && slices.Equal(x.Num.Mag, want.Num.Mag) && slices.Equal(x.Den, want.Den)
}

// isForm reports whether l is the plain list of p.
func isForm(r api.Ring, l []api.Term, p sum) bool {
	return slices.EqualFunc(l, p.terms(r), func(a, b api.Term) bool {
		return isRat(a.C, toBig(b.C)) && slices.Equal(a.E, b.E)
	})
}

// areForms reports whether l are the plain lists of polynomials.
func areForms(r api.Ring, l [][]api.Term, want []sum) bool {
	return slices.EqualFunc(l, want, func(p []api.Term, s sum) bool { return isForm(r, p, s) })
}

// parsed is the polynomial of a text.
func parsed(t *testing.T, r api.Ring, text string) []api.Term {
	t.Helper()
	p, e := notation.Parse(r, text)
	if e != api.OK {
		t.Fatalf("%q: %d", text, e)
	}
	return p
}

// parsedList are the polynomials of a text with semicolons between them.
func parsedList(t *testing.T, r api.Ring, text string) [][]api.Term {
	t.Helper()
	var l [][]api.Term
	if text == "" {
		return nil
	}
	for part := range strings.SplitSeq(text, ";") {
		l = append(l, parsed(t, r, part))
	}
	return l
}

func printed(r api.Ring, p []api.Term) string {
	s, e := notation.Print(r, p)
	if e != api.OK {
		return fmt.Sprintf("error %d", e)
	}
	return s
}

// printedList has semicolons between polynomials.
func printedList(r api.Ring, l [][]api.Term) string {
	var all []string
	for _, p := range l {
		all = append(all, printed(r, p))
	}
	return strings.Join(all, "; ")
}

// The helpers themselves, by hand.
func TestSums(t *testing.T) {
	r := lex(2)
	p := minus(times(sum{key{2, 1}: rat(1, 1)}, constant(rat(3, 2))), constant(rat(3, 2)))
	if !isSame(p, sumOf(parsed(t, r, "3/2*x^2*y - 3/2"))) || lead(r, p) != (key{2, 1}) {
		t.Errorf("sums: %v", p)
	}
	if k, ok := (key{2, 1}).over(key{1, 1}); !ok || k != (key{1}) {
		t.Errorf("over: %v, %t", k, ok)
	}
	if _, ok := (key{2, 1}).over(key{0, 2}); ok {
		t.Error("over what does not divide")
	}
	if isForm(r, append(parsed(t, r, "y"), parsed(t, r, "x")...), sumOf(parsed(t, r, "x + y"))) || isRat(api.Rat{}, new(big.Rat)) {
		t.Error("a form that is not plain")
	}
	if l := parsedList(t, r, "x - y; 1; 0"); len(l) != 3 || printedList(r, l) != "x - y; 1; 0" || parsedList(t, r, "") != nil {
		t.Errorf("lists: %v", l)
	}
	s := noise(1)
	for n := range 300 {
		p := times(sumOf(parsed(t, r, "x^2 - 5/7*x*y + 3")), constant(s.fraction(1+n)))
		if l := s.anyForm(r, p); !isSame(sumOf(l), p) {
			t.Errorf("anyForm: %v", l)
		}
	}
}
