package several_test

import (
	"fmt"
	"maps"
	"math"
	"math/big"
	"slices"
	"strings"
	"testing"

	"primrose/api"
	"primrose/factor"
	"primrose/fraction"
	"primrose/mono"
	"primrose/notation"
	"primrose/several"
)

// limit is the greatest exponent.
const limit = 1 << 16

// letters returns so many names of one letter.
func letters(n int) []string {
	return strings.Split("xyzuvw"[:n], "")
}

// lex is a ring with the order Lex.
func lex(n int) api.Ring {
	return api.Ring{Names: letters(n), Order: api.Lex}
}

// rings returns the valid rings of n variables, of all orders.
func rings(n int) []api.Ring {
	all := []api.Ring{lex(n), {Names: letters(n), Order: api.Grlex}, {Names: letters(n), Order: api.Grevlex}}
	for first := 1; first < n; first++ {
		all = append(all, api.Ring{Names: letters(n), Order: api.Block, First: first})
	}
	return all
}

// allRings are the valid rings of 1 to 6 variables.
func allRings() []api.Ring {
	var all []api.Ring
	for n := 1; n <= 6; n++ {
		all = append(all, rings(n)...)
	}
	return all
}

// noise makes numbers that look like chance, the same in each run.
type noise uint64

func (s *noise) below(n int) int {
	*s = *s*6364136223846793005 + 1442695040888963407
	return int(*s>>33) % n
}

// size makes a number from -n to n.
func (s *noise) size(n int) int {
	return s.below(2*n+1) - n
}

// great makes a number of at most that many binary digits, with either sign, but
// not 0.
func (s *noise) great(digits int) *big.Int {
	z := big.NewInt(1)
	for range digits/31 + 1 {
		z.Add(z.Lsh(z, 31), big.NewInt(int64(s.below(1<<31))))
	}
	z.Rsh(z, uint(z.BitLen()-max(1, 1+s.below(digits))))
	if s.below(2) == 0 {
		z.Neg(z)
	}
	return z
}

func (s *noise) fraction(digits int) *big.Rat {
	return new(big.Rat).SetFrac(s.great(digits), s.great(digits))
}

func fromLimbs(a []uint32) *big.Int {
	z := new(big.Int)
	for i := len(a) - 1; i >= 0; i-- {
		z.Lsh(z, 32)
		z.Or(z, big.NewInt(int64(a[i])))
	}
	return z
}

func toLimbs(z *big.Int) []uint32 {
	var l []uint32
	mask := big.NewInt(math.MaxUint32)
	for rest := new(big.Int).Abs(z); rest.Sign() > 0; rest.Rsh(rest, 32) {
		l = append(l, uint32(new(big.Int).And(rest, mask).Uint64()))
	}
	return l
}

func toBig(x api.Rat) *big.Rat {
	num, den := fromLimbs(x.Num.Mag), fromLimbs(x.Den)
	if den.Sign() == 0 {
		return new(big.Rat)
	}
	if x.Num.Neg {
		num.Neg(num)
	}
	return new(big.Rat).SetFrac(num, den)
}

// toRat returns the plain fraction.
func toRat(x *big.Rat) api.Rat {
	return api.Rat{Num: api.Int{Neg: x.Sign() < 0, Mag: toLimbs(x.Num())}, Den: toLimbs(x.Denom())}
}

func rat(num, den int64) *big.Rat {
	return big.NewRat(num, den)
}

// key is a monomial without regard to the ring.
type key [6]int

// sum is a polynomial as the tests reckon: coefficients, none of them 0.
type sum map[key]*big.Rat

func (s sum) add(k key, c *big.Rat) {
	total := new(big.Rat).Set(c)
	if old, ok := s[k]; ok {
		total.Add(total, old)
	}
	if total.Sign() == 0 {
		delete(s, k)
	} else {
		s[k] = total
	}
}

func sumOf(p []api.Term) sum {
	s := sum{}
	for _, t := range p {
		var k key
		copy(k[:], t.E)
		s.add(k, toBig(t.C))
	}
	return s
}

func constant(c *big.Rat) sum {
	s := sum{}
	s.add(key{}, c)
	return s
}

// power returns the variable i to the power of n.
func power(i, n int) sum {
	var k key
	k[i] = n
	return sum{k: rat(1, 1)}
}

func plus(s, t sum) sum {
	all := maps.Clone(s)
	for k, c := range t {
		all.add(k, c)
	}
	return all
}

func times(s, t sum) sum {
	all := sum{}
	for k, c := range s {
		for l, d := range t {
			product := k
			for i := range l {
				product[i] += l[i]
			}
			all.add(product, new(big.Rat).Mul(c, d))
		}
	}
	return all
}

func scaled(s sum, c *big.Rat) sum {
	return times(s, constant(c))
}

func isSame(s, t sum) bool {
	return maps.EqualFunc(s, t, func(x, y *big.Rat) bool { return x.Cmp(y) == 0 })
}

// degree is the greatest exponent of the variable i, or -1.
func degree(s sum, i int) int {
	n := -1
	for k := range s {
		n = max(n, k[i])
	}
	return n
}

// greatest is the leading monomial by Lex.
func greatest(s sum) key {
	return slices.MaxFunc(slices.Collect(maps.Keys(s)), func(a, b key) int { return slices.Compare(a[:], b[:]) })
}

// quotient divides by the words: the leading terms cancel, as long as they can.
func quotient(p, q sum) (sum, bool) {
	rest, all, lead := maps.Clone(p), sum{}, greatest(q)
	for len(rest) > 0 {
		k := greatest(rest)
		c := new(big.Rat).Quo(rest[k], q[lead])
		for i := range k {
			k[i] -= lead[i]
			if k[i] < 0 {
				return nil, false
			}
		}
		all.add(k, c)
		rest = plus(rest, scaled(times(q, sum{k: c}), rat(-1, 1)))
	}
	return all, true
}

// terms is the plain list of a polynomial.
func (s sum) terms(r api.Ring) []api.Term {
	var l []api.Term
	for k, c := range s {
		l = append(l, api.Term{C: toRat(c), E: slices.Clone(k[:len(r.Names)])})
	}
	slices.SortFunc(l, func(a, b api.Term) int { return mono.Cmp(r, b.E, a.E) })
	return l
}

// loose makes a polynomial's terms as they need not be: in no order, some of them
// divided into several or beside a 0, and their coefficients not plain.
func (s *noise) loose(r api.Ring, p sum) []api.Term {
	l := p.terms(r)
	for range s.below(4) {
		c, e := toRat(s.fraction(20)), make([]int, len(r.Names))
		if len(l) > 0 && s.below(2) == 0 {
			e = slices.Clone(l[s.below(len(l))].E)
		}
		switch s.below(3) {
		case 0:
			l = append(l, api.Term{E: e})
		case 1:
			l = append(l, api.Term{C: api.Rat{Num: c.Num, Den: []uint32{0}}, E: e})
		case 2:
			l = append(l, api.Term{C: c, E: e}, api.Term{C: fraction.Neg(c), E: slices.Clone(e)})
		}
	}
	for k := range l {
		if len(l[k].C.Den) > 0 && s.below(2) == 0 {
			l[k].C = s.unplain(l[k].C)
		}
		other := s.below(k + 1)
		l[k], l[other] = l[other], l[k]
	}
	return l
}

// unplain makes another form of the same fraction.
func (s *noise) unplain(x api.Rat) api.Rat {
	by := new(big.Int).Abs(s.great(40))
	num := toLimbs(new(big.Int).Mul(fromLimbs(x.Num.Mag), by))
	den := toLimbs(new(big.Int).Mul(fromLimbs(x.Den), by))
	num = append(num, make([]uint32, s.below(3))...)
	return api.Rat{Num: api.Int{Neg: x.Num.Neg, Mag: num}, Den: append(den, make([]uint32, s.below(3))...)}
}

// content is the fraction of N2, by its words.
func content(r api.Ring, p sum) *big.Rat {
	divisor, multiple := new(big.Int), big.NewInt(1)
	for _, c := range p {
		divisor.GCD(nil, nil, divisor, new(big.Int).Abs(c.Num()))
		shared := new(big.Int).GCD(nil, nil, multiple, c.Denom())
		multiple.Mul(multiple, new(big.Int).Quo(c.Denom(), shared))
	}
	by := new(big.Rat).SetFrac(divisor, multiple)
	if p.terms(r)[0].C.Num.Neg {
		by.Neg(by)
	}
	return by
}

func primitive(r api.Ring, p sum) sum {
	return scaled(p, new(big.Rat).Inv(content(r, p)))
}

// isRat reports whether x is c in plain form.
func isRat(x api.Rat, c *big.Rat) bool {
	want := toRat(c)
	return x.Num.Neg == want.Num.Neg && slices.Equal(x.Num.Mag, want.Num.Mag) && slices.Equal(x.Den, want.Den)
}

// isZeroRat reports whether x is the zero value.
func isZeroRat(x api.Rat) bool {
	return !x.Num.Neg && len(x.Num.Mag) == 0 && len(x.Den) == 0
}

// isForm reports whether l is the plain list of p.
func isForm(r api.Ring, l []api.Term, p sum) bool {
	return slices.EqualFunc(l, p.terms(r), func(a, b api.Term) bool {
		return isRat(a.C, toBig(b.C)) && slices.Equal(a.E, b.E)
	})
}

// known is a factor that is known to be irreducible, and how often it is one.
type known struct {
	p sum
	n int
}

// isBefore is the order of polynomials, by its words.
func isBefore(r api.Ring, p, q sum) bool {
	a, b := p.terms(r), q.terms(r)
	if len(a) != len(b) {
		return len(a) < len(b)
	}
	for k := range a {
		if c := mono.Cmp(r, a[k].E, b[k].E); c != 0 {
			return c < 0
		}
		if c := toBig(a[k].C).Cmp(toBig(b[k].C)); c != 0 {
			return c < 0
		}
	}
	return false
}

// together makes factors primitive, puts the same ones into one, and all of them
// into order.
func together(r api.Ring, l []known) []known {
	var all []known
next:
	for _, x := range l {
		x.p = primitive(r, x.p)
		for i := range all {
			if isSame(all[i].p, x.p) {
				all[i].n += x.n
				continue next
			}
		}
		all = append(all, x)
	}
	for i := range all {
		for k := i; k > 0 && isBefore(r, all[k].p, all[k-1].p); k-- {
			all[k], all[k-1] = all[k-1], all[k]
		}
	}
	return all
}

// multiplied returns the product of a fraction and of factors.
func multiplied(c *big.Rat, l []known) sum {
	p := constant(c)
	for _, x := range l {
		for range x.n {
			p = times(p, x.p)
		}
	}
	return p
}

// image is that of the chapter's words, and false if it is too long.
func image(r api.Ring, p sum) ([]api.Int, int, bool) {
	side := 1
	for i := range 6 {
		side = max(side, degree(p, i)+1)
	}
	length := new(big.Int).Exp(big.NewInt(int64(side)), big.NewInt(int64(len(r.Names))), nil)
	if length.Cmp(big.NewInt(256)) > 0 {
		return nil, side, false
	}
	f := make([]api.Int, length.Int64())
	for k, c := range primitive(r, p) {
		place, step := 0, 1
		for i := range r.Names {
			place += k[i] * step
			step *= side
		}
		f[place] = toRat(c).Num
	}
	return f, side, true
}

// imageParts are the factors of the image, each as often as it is one, and false
// if the words say that p is too great.
func imageParts(r api.Ring, p sum) (parts [][]api.Int, side int, ok bool) {
	f, side, ok := image(r, p)
	if !ok {
		return nil, side, false
	}
	_, l, e := factor.Factor(f)
	for _, x := range l {
		for range x.N {
			parts = append(parts, x.P)
		}
	}
	return parts, side, e == api.OK && len(parts) <= 12
}

// original is the polynomial whose image is the product of the parts.
func original(r api.Ring, parts [][]api.Int, side int) sum {
	f := constant(rat(1, 1))
	for _, g := range parts {
		s := sum{}
		for place, c := range g {
			s.add(key{place}, toBig(api.Rat{Num: c, Den: []uint32{1}}))
		}
		f = times(f, s)
	}
	p := sum{}
	for k, c := range f {
		var e key
		rest := k[0]
		for i := range r.Names {
			e[i] = rest % side
			rest /= side
		}
		p.add(e, c)
	}
	return p
}

// irreducibles finds a primitive polynomial's factors slowly: the first choice of
// parts whose polynomial divides it, with the fewest parts, is an irreducible one.
func irreducibles(r api.Ring, p sum, parts [][]api.Int, side int) []known {
	for size := 1; size < len(parts); size++ {
		for mask := range 1 << len(parts) {
			var chosen, others [][]api.Int
			for i, f := range parts {
				if mask>>i&1 == 1 {
					chosen = append(chosen, f)
				} else {
					others = append(others, f)
				}
			}
			if len(chosen) != size {
				continue
			}
			q := original(r, chosen, side)
			if rest, ok := quotient(p, q); ok {
				return append(irreducibles(r, rest, others, side), known{q, 1})
			}
		}
	}
	if len(parts) == 0 {
		return nil
	}
	return []known{{p, 1}}
}

// parsed is the polynomial of a text.
func parsed(t *testing.T, r api.Ring, text string) []api.Term {
	t.Helper()
	p, e := notation.Parse(r, text)
	if e != api.OK {
		t.Fatalf("%q: %d", text, e)
	}
	return p
}

func printed(r api.Ring, p []api.Term) string {
	s, e := notation.Print(r, p)
	if e != api.OK {
		return fmt.Sprintf("error %d", e)
	}
	return s
}

// told is an answer of Factor as a text.
func told(r api.Ring, c api.Rat, l []api.Part) string {
	s := fraction.Text(c)
	for _, x := range l {
		s += fmt.Sprintf(" | %s", printed(r, x.P))
		if x.N != 1 {
			s += fmt.Sprintf(" : %d", x.N)
		}
	}
	return s
}

// expectFactors holds an answer of Factor for a list of terms against what it has
// to be.
func expectFactors(t *testing.T, r api.Ring, l []api.Term, c *big.Rat, want []known) {
	t.Helper()
	content, got, e := several.Factor(r, l)
	ok := slices.EqualFunc(got, want, func(a api.Part, b known) bool { return a.N == b.n && isForm(r, a.P, b.p) })
	if e != api.OK || !ok || !isRat(content, c) {
		var all []api.Part
		for _, x := range want {
			all = append(all, api.Part{P: x.p.terms(r), N: x.n})
		}
		t.Fatalf("N3: Factor of %s in %v: %s, %d, not %s", printed(r, l), r, told(r, content, got), e, told(r, toRat(c), all))
	}
}

// expectError expects an error of Factor, and nothing else.
func expectError(t *testing.T, r api.Ring, l []api.Term, want api.Errno) {
	t.Helper()
	c, got, e := several.Factor(r, l)
	if e != want || len(got) != 0 || !isZeroRat(c) {
		t.Fatalf("N3: Factor of %s in %v: %s, %d, not %d", printed(r, l), r, told(r, c, got), e, want)
	}
}

// expectProduct expects the product of a fraction and of these irreducible
// polynomials to be factored, or to be too great if the words say so. It reports
// whether it was factored.
func expectProduct(t *testing.T, s *noise, r api.Ring, c *big.Rat, l []known) bool {
	t.Helper()
	l = together(r, l)
	p := multiplied(c, l)
	if _, _, ok := imageParts(r, p); !ok {
		expectError(t, r, s.loose(r, p), api.ErrLong)
		return false
	}
	expectFactors(t, r, s.loose(r, p), c, l)
	return true
}

// The helpers themselves, by hand.
func TestReference(t *testing.T) {
	r := lex(2)
	of := func(text string) sum { return sumOf(parsed(t, r, text)) }
	if p := plus(times(power(0, 2), power(1, 1)), constant(rat(-3, 2))); !isSame(p, of("x^2*y - 3/2")) || degree(p, 0) != 2 || degree(p, 1) != 1 || degree(sum{}, 0) != -1 {
		t.Errorf("sums: %v", p)
	}
	if q, ok := quotient(of("x^2 - y^2"), of("2*x + 2*y")); !ok || !isSame(q, of("1/2*x - 1/2*y")) {
		t.Errorf("quotient: %v, %t", q, ok)
	}
	if q, ok := quotient(of("x^2 + y^2"), of("x + y")); ok {
		t.Errorf("quotient: %v", q)
	}
	if c := content(r, of("-4/3*x + 6*y")); c.Cmp(rat(-2, 3)) != 0 {
		t.Errorf("content: %v", c)
	}
	if p := primitive(r, of("-4/3*x + 6*y")); !isSame(p, of("2*x - 9*y")) {
		t.Errorf("primitive: %v", p)
	}
	l := together(r, []known{{of("x - y"), 1}, {of("2*y"), 1}, {of("y - x"), 2}, {of("x + 2"), 1}, {of("x + y"), 1}})
	if len(l) != 4 || !isSame(l[0].p, of("y")) || !isSame(l[1].p, of("x + 2")) || !isSame(l[2].p, of("x - y")) || l[2].n != 3 {
		t.Errorf("together: %v", l)
	}
	f, side, ok := image(r, of("4*x^2*y - 6*y^2")) // 2*t^5 - 3*t^6
	if !ok || side != 3 || len(f) != 9 || f[5].Mag[0] != 2 || f[6].Mag[0] != 3 || !f[6].Neg {
		t.Errorf("image: %v, %d, %t", f, side, ok)
	}
	if _, side, ok := image(r, of("x^16")); ok || side != 17 {
		t.Errorf("image: %d, %t", side, ok)
	}
	parts, side, ok := imageParts(r, of("x^2 + y^2")) // t^2 + t^6
	if !ok || len(parts) != 3 || !isSame(original(r, parts, side), of("x^2 + y^2")) || !isSame(original(r, parts[:2], side), of("x^2")) {
		t.Errorf("imageParts: %v, %d, %t", parts, side, ok)
	}
	if parts, _, ok := imageParts(r, of("x^13")); ok || len(parts) != 13 {
		t.Errorf("imageParts: %v, %t", parts, ok)
	}
	if isRat(api.Rat{}, new(big.Rat)) || isRat(api.Rat{Num: api.Int{Mag: []uint32{1, 0}}, Den: []uint32{1}}, rat(1, 1)) {
		t.Error("isRat takes what is not plain")
	}
	if isForm(r, append(parsed(t, r, "y"), parsed(t, r, "x")...), of("x + y")) {
		t.Error("isForm takes what is not plain")
	}
	s := noise(1)
	for n := range 100 {
		p := scaled(of("x^2 - 5/7*x*y + 3"), s.fraction(1+n))
		if l := s.loose(r, p); !isSame(sumOf(l), p) {
			t.Errorf("loose: %v", l)
		}
	}
}
