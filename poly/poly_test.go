package poly_test

import (
	"math"
	"math/big"
	"slices"
	"strings"
	"testing"

	"primrose/api"
	"primrose/fraction"
	"primrose/mono"
	"primrose/poly"
)

// limit is the greatest exponent.
const limit = 1 << 16

const top = math.MaxUint32

// letters returns so many names of one letter.
func letters(n int) []string {
	return strings.Split("xyzuvw"[:n], "")
}

// rings returns the valid rings of n variables, of all orders.
func rings(n int) []api.Ring {
	all := []api.Ring{
		{Names: letters(n), Order: api.Lex},
		{Names: letters(n), Order: api.Grlex},
		{Names: letters(n), Order: api.Grevlex},
	}
	for first := 1; first < n; first++ {
		all = append(all, api.Ring{Names: letters(n), Order: api.Block, First: first})
	}
	return all
}

// allRings are the valid rings of 1 to 6 variables.
func allRings() []api.Ring {
	var all []api.Ring
	for n := 1; n <= 6; n++ {
		all = append(all, rings(n)...)
	}
	return all
}

// of makes a term whose coefficient is an integer.
func of(c int, e ...int) api.Term {
	return api.Term{C: fraction.Of(c), E: e}
}

// rat makes a fraction as it is given, plain or not.
func rat(num, den int) api.Rat {
	x, y := fraction.Of(num), fraction.Of(den)
	return api.Rat{Num: x.Num, Den: y.Num.Mag}
}

// coefficients are fractions of many shapes: plain ones, those with leading zero
// limbs or with common divisors, and those that are 0.
func coefficients() []api.Rat {
	return []api.Rat{
		rat(1, 1), rat(-1, 1), rat(2, 1), rat(-3, 4), rat(6, 4), rat(-10, 5), rat(5, 7), rat(0, 1), rat(0, 9), rat(5, 0), {},
		{Num: api.Int{Neg: true, Mag: []uint32{0, 0}}, Den: []uint32{3}},
		{Num: api.Int{Neg: true, Mag: []uint32{6, 0}}, Den: []uint32{9, 0, 0}},
		{Num: api.Int{Mag: []uint32{4, 0, 0}}, Den: []uint32{1, 0}},
		{Num: api.Int{Mag: []uint32{7}}, Den: []uint32{0, 0}},
		{Num: api.Int{Mag: []uint32{top, 5}}, Den: []uint32{0, 1, 0}},
		{Num: api.Int{Neg: true, Mag: []uint32{0, 3, 1}}, Den: []uint32{top, 3}},
	}
}

// noise makes numbers that look like chance, the same in each run.
type noise uint64

func (s *noise) below(n int) int {
	*s = *s*6364136223846793005 + 1442695040888963407
	return int(*s>>33) % n
}

// list makes so many terms, in no order, whose exponents are below high.
func (s *noise) list(n, terms, high int) []api.Term {
	all := coefficients()
	l := make([]api.Term, terms)
	for k := range l {
		l[k] = api.Term{C: all[s.below(len(all))], E: make([]int, n)}
		for i := range n {
			l[k].E[i] = s.below(high)
		}
	}
	return l
}

// samples are polynomials in n variables, plain or not.
func samples(n int) [][]api.Term {
	s := noise(n)
	e := s.list(n, 1, 4)[0].E
	all := [][]api.Term{
		nil, {},
		{of(0, e...)},
		{of(5, e...), of(-5, e...)},
		{{C: rat(7, 0), E: e}, of(0, make([]int, n)...)},
		{of(1, make([]int, n)...)},
		{{C: rat(-6, 4), E: make([]int, n)}},
		{of(2, e...), {C: rat(1, 3), E: e}, {C: rat(2, 3), E: e}},
	}
	for terms := 1; terms <= 6; terms++ {
		all = append(all, s.list(n, terms, 4))
	}
	return append(all, s.list(n, 12, 2), s.list(n, 9, 3))
}

// few are samples of which triples can be gone through.
func few(n int) [][]api.Term {
	s := noise(50 + n)
	return [][]api.Term{nil, {of(1, make([]int, n)...)}, s.list(n, 2, 3), s.list(n, 3, 3), s.list(n, 5, 2)}
}

// key is a monomial as a map takes it, without regard to the ring.
type key [6]int

func keyOf(e []int) key {
	var k key
	copy(k[:], e)
	return k
}

// sum is a polynomial as the tests reckon: coefficients, none of them 0.
type sum map[key]*big.Rat

func (s sum) add(k key, c *big.Rat) {
	total := new(big.Rat).Set(c)
	if old, ok := s[k]; ok {
		total.Add(total, old)
	}
	if total.Sign() == 0 {
		delete(s, k)
	} else {
		s[k] = total
	}
}

func sumOf(p []api.Term) sum {
	s := sum{}
	for _, t := range p {
		s.add(keyOf(t.E), toBig(t.C))
	}
	return s
}

func (s sum) plus(t sum, times *big.Rat) sum {
	all := sum{}
	for k, c := range s {
		all.add(k, c)
	}
	for k, c := range t {
		all.add(k, new(big.Rat).Mul(c, times))
	}
	return all
}

func (s sum) times(t sum) sum {
	all := sum{}
	for k, c := range s {
		for l, d := range t {
			product := k
			for i := range l {
				product[i] += l[i]
			}
			all.add(product, new(big.Rat).Mul(c, d))
		}
	}
	return all
}

func bigLimbs(a []uint32) *big.Int {
	z := new(big.Int)
	for i := len(a) - 1; i >= 0; i-- {
		z.Lsh(z, 32)
		z.Or(z, big.NewInt(int64(a[i])))
	}
	return z
}

func toBig(x api.Rat) *big.Rat {
	num, den := bigLimbs(x.Num.Mag), bigLimbs(x.Den)
	if den.Sign() == 0 {
		return new(big.Rat)
	}
	if x.Num.Neg {
		num.Neg(num)
	}
	return new(big.Rat).SetFrac(num, den)
}

// isPlainRat tells whether x is plain without asking package fraction.
func isPlainRat(x api.Rat) bool {
	ends := func(a []uint32) bool { return len(a) == 0 || a[len(a)-1] != 0 }
	value := toBig(x)
	return ends(x.Num.Mag) && ends(x.Den) && value.Denom().Cmp(bigLimbs(x.Den)) == 0 && x.Num.Neg == (value.Sign() < 0)
}

// isPlain tells whether p is plain without asking package poly.
func isPlain(r api.Ring, p []api.Term) bool {
	for k, t := range p {
		if !mono.Right(r, t.E) || !isPlainRat(t.C) || toBig(t.C).Sign() == 0 {
			return false
		}
		if k > 0 && mono.Cmp(r, p[k-1].E, t.E) != 1 {
			return false
		}
	}
	return true
}

// expect holds a list against the one plain form of a polynomial.
func expect(t *testing.T, r api.Ring, got []api.Term, e api.Errno, want sum, what string, args ...any) {
	t.Helper()
	if e != api.OK || !isPlain(r, got) || len(got) != len(want) {
		t.Fatalf("%s of %v in %v: %v, error %d, not %v", what, args, r, got, e, want)
	}
	for _, term := range got {
		if c, ok := want[keyOf(term.E)]; !ok || c.Cmp(toBig(term.C)) != 0 {
			t.Fatalf("%s of %v in %v: %v, not %v", what, args, r, got, want)
		}
	}
}

// expectTerms holds a list against terms, in their order.
func expectTerms(t *testing.T, got []api.Term, e api.Errno, want []api.Term, what string) {
	t.Helper()
	if e != api.OK || !isSame(got, want) {
		t.Errorf("%s: %v, error %d, not %v", what, got, e, want)
	}
}

// isSame tells whether two lists have the same form, not only the same value.
func isSame(p, q []api.Term) bool {
	return slices.EqualFunc(p, q, func(s, t api.Term) bool { return isSameRat(s.C, t.C) && slices.Equal(s.E, t.E) })
}

func isSameRat(x, y api.Rat) bool {
	return x.Num.Neg == y.Num.Neg && slices.Equal(x.Num.Mag, y.Num.Mag) && slices.Equal(x.Den, y.Den)
}

func isNoRat(x api.Rat) bool {
	return isSameRat(x, api.Rat{})
}

// expectError holds a list and an error against that error.
func expectError(t *testing.T, got []api.Term, e, want api.Errno, what string) {
	t.Helper()
	if len(got) != 0 || e != want {
		t.Errorf("%s: %v, error %d, not %d", what, got, e, want)
	}
}

func TestG1Norm(t *testing.T) {
	for _, r := range allRings() {
		for _, p := range samples(len(r.Names)) {
			got, e := poly.Norm(r, p)
			expect(t, r, got, e, sumOf(p), "Norm", p)
			again, e := poly.Norm(r, got)
			expectTerms(t, again, e, got, "Norm of Norm")
			if !poly.Right(r, got) || poly.Right(r, p) != isPlain(r, p) {
				t.Errorf("Right of %v and of %v in %v", got, p, r)
			}
		}
	}
}

func TestG1Example(t *testing.T) {
	l := []api.Term{of(1, 0, 1), of(1, 1, 0), of(2, 0, 1), of(0, 2, 0)}
	got, e := poly.Norm(rings(2)[0], l)
	expectTerms(t, got, e, []api.Term{of(1, 1, 0), of(3, 0, 1)}, "y, x, 2*y, 0*x^2")
}

// Each order has its own list of the same terms.
func TestG1Orders(t *testing.T) {
	l := []api.Term{of(1, 0, 0, 0), of(2, 0, 0, 7), of(3, 0, 2, 0), of(4, 1, 0, 1), of(5, 1, 0, 0), of(6, 0, 1, 2)}
	for i, want := range [][]int{{4, 5, 3, 6, 2, 1}, {2, 6, 4, 3, 5, 1}, {2, 6, 3, 4, 5, 1}, {4, 5, 2, 6, 3, 1}, {3, 4, 5, 6, 2, 1}} {
		var c []int
		got, _ := poly.Norm(rings(3)[i], l)
		for _, term := range got {
			c = append(c, int(term.C.Num.Mag[0]))
		}
		if !slices.Equal(c, want) {
			t.Errorf("in %v: %v, not %v", rings(3)[i], c, want)
		}
	}
}

// All arrangements of terms have the same plain form, and only one is it.
func TestG1Arrangements(t *testing.T) {
	for _, r := range rings(3) {
		l := []api.Term{of(3, 2, 0, 1), of(-4, 1, 1, 1), of(5, 0, 3, 0), of(1, 0, 0, 0), of(7, 1, 0, 0)}
		want, e := poly.Norm(r, l)
		expect(t, r, want, e, sumOf(l), "Norm", l)
		plain := 0
		arrange(l, 0, func() {
			got, e := poly.Norm(r, l)
			expectTerms(t, got, e, want, "Norm of another order")
			if poly.Right(r, l) {
				plain++
			}
		})
		if plain != 1 {
			t.Errorf("in %v %d arrangements are plain", r, plain)
		}
	}
}

// arrange calls done with each order of the terms from k on.
func arrange(l []api.Term, k int, done func()) {
	if k == len(l) {
		done()
		return
	}
	for j := k; j < len(l); j++ {
		l[k], l[j] = l[j], l[k]
		arrange(l, k+1, done)
		l[k], l[j] = l[j], l[k]
	}
}

// Longer lists, so that no sort for short ones does.
func TestG1LongLists(t *testing.T) {
	for _, r := range rings(4) {
		s := noise(9)
		for _, terms := range []int{20, 100, 500} {
			p := s.list(4, terms, 5)
			got, e := poly.Norm(r, p)
			expect(t, r, got, e, sumOf(p), "Norm")
			slices.Reverse(got)
			again, e := poly.Norm(r, got)
			expect(t, r, again, e, sumOf(p), "Norm of the reverse")
		}
	}
}

func TestG1GreatestExponents(t *testing.T) {
	for _, r := range allRings() {
		n := len(r.Names)
		e := slices.Repeat([]int{limit}, n)
		p := []api.Term{of(1, make([]int, n)...), of(3, e...)}
		got, err := poly.Norm(r, p)
		expectTerms(t, got, err, []api.Term{p[1], p[0]}, "exponents of 2^16")
	}
}

// A list that is plain but for one thing is not.
func TestG1NotPlain(t *testing.T) {
	r := rings(2)[0]
	good := []api.Term{of(2, 2, 1), {C: rat(-3, 2), E: []int{1, 5}}, of(4, 0, 0)}
	if !poly.Right(r, good) || !poly.Right(r, nil) || !poly.Right(r, []api.Term{}) || !poly.Right(r, good[2:]) {
		t.Error("plain lists are not Right")
	}
	for _, c := range []api.Rat{
		rat(0, 1), rat(0, 3), rat(3, 0), {}, rat(4, 6), rat(-6, 2), rat(0, 0),
		{Num: api.Int{Mag: []uint32{3, 0}}, Den: []uint32{1}},
		{Num: api.Int{Mag: []uint32{3}}, Den: []uint32{2, 0}},
		{Num: api.Int{Neg: true}, Den: []uint32{1}},
		{Num: api.Int{Mag: []uint32{0}}, Den: []uint32{1}},
	} {
		for k := range good {
			bad := slices.Clone(good)
			bad[k].C = c
			expectNotRight(t, r, bad)
		}
	}
	for k := range good {
		expectNotRight(t, r, slices.Insert(slices.Clone(good), k, good[k]))
		bad := slices.Clone(good)
		bad[k], bad[(k+1)%3] = bad[(k+1)%3], bad[k]
		expectNotRight(t, r, bad)
		for _, e := range wrongExponents(2) {
			bad[k].E = e
			expectNotRight(t, r, bad)
		}
	}
	expectNotRight(t, rings(2)[1], []api.Term{of(1, 1, 0), of(1, 0, 2)})
	for _, w := range wrongRings() {
		expectNotRight(t, w, nil)
		expectNotRight(t, w, good)
	}
}

func expectNotRight(t *testing.T, r api.Ring, p []api.Term) {
	t.Helper()
	if poly.Right(r, p) {
		t.Errorf("Right of %v in %v", p, r)
	}
}
