package notation_test

import (
	"math"
	"math/big"
	"slices"
	"strings"
	"testing"

	"primrose/api"
	"primrose/fraction"
	"primrose/mono"
	"primrose/notation"
	"primrose/poly"
)

// limit is the greatest exponent.
const limit = 1 << 16

const top = math.MaxUint32

// names returns so many names, of one letter or more, of which some are parts of
// others.
func names(n int) []string {
	return []string{"x", "y", "x1", "Zy", "aB3dE6gH", "A"}[:n]
}

// rings returns the valid rings of n variables, of all orders.
func rings(n int) []api.Ring {
	all := []api.Ring{
		{Names: names(n), Order: api.Lex},
		{Names: names(n), Order: api.Grlex},
		{Names: names(n), Order: api.Grevlex},
	}
	for first := 1; first < n; first++ {
		all = append(all, api.Ring{Names: names(n), Order: api.Block, First: first})
	}
	return all
}

// allRings are the valid rings of 1 to 6 variables.
func allRings() []api.Ring {
	var all []api.Ring
	for n := 1; n <= 6; n++ {
		all = append(all, rings(n)...)
	}
	return all
}

// plane is the ring of x and y by Lex.
func plane() api.Ring {
	return rings(2)[0]
}

// wrongRings are rings that are not valid.
func wrongRings() []api.Ring {
	return []api.Ring{
		{},
		{Names: []string{"x"}, Order: api.Block, First: 1},
		{Names: []string{"x", "x"}},
		{Names: []string{"x", ""}},
		{Names: []string{"1", "y"}},
		{Names: []string{"x", "y z"}},
		{Names: []string{"x", "ninechars"}},
		{Names: []string{"x", "y"}, Order: 4},
		{Names: []string{"x", "y"}, Order: -1},
		{Names: []string{"x", "y"}, Order: api.Block},
		{Names: []string{"x", "y"}, Order: api.Block, First: 2},
		{Names: []string{"x", "y"}, Order: api.Lex, First: 1},
		{Names: []string{"a", "b", "c", "d", "e", "f", "g"}},
	}
}

// of makes a term whose coefficient is an integer.
func of(c int, e ...int) api.Term {
	return api.Term{C: fraction.Of(c), E: e}
}

// over makes a term whose coefficient is a fraction as it is given, plain or not.
func over(num, den int, e ...int) api.Term {
	return api.Term{C: rat(num, den), E: e}
}

func rat(num, den int) api.Rat {
	x, y := fraction.Of(num), fraction.Of(den)
	return api.Rat{Num: x.Num, Den: y.Num.Mag}
}

// coefficients are fractions of many shapes: plain ones, those with leading zero
// limbs or with common divisors, and those that are 0.
func coefficients() []api.Rat {
	return []api.Rat{
		rat(1, 1), rat(-1, 1), rat(1, 1), rat(-1, 1), rat(2, 1), rat(-3, 4), rat(6, 4), rat(-10, 5), rat(5, 7), rat(1, 2), rat(-1, 3),
		rat(0, 1), rat(0, 9), rat(5, 0), {},
		{Num: api.Int{Neg: true, Mag: []uint32{0, 0}}, Den: []uint32{3}},
		{Num: api.Int{Neg: true, Mag: []uint32{6, 0}}, Den: []uint32{9, 0, 0}},
		{Num: api.Int{Mag: []uint32{4, 0, 0}}, Den: []uint32{4, 0}},
		{Num: api.Int{Neg: true, Mag: []uint32{7, 0, 1}}, Den: []uint32{7, 0, 1}},
		{Num: api.Int{Mag: []uint32{top, 5}}, Den: []uint32{0, 1, 0}},
		{Num: api.Int{Neg: true, Mag: []uint32{0, 3, 1}}, Den: []uint32{top, 3}},
	}
}

// noise makes numbers that look like chance, the same in each run.
type noise uint64

func (s *noise) below(n int) int {
	*s = *s*6364136223846793005 + 1442695040888963407
	return int(*s>>33) % n
}

// list makes so many terms, in no order, whose exponents are below high.
func (s *noise) list(n, terms, high int) []api.Term {
	all := coefficients()
	l := make([]api.Term, terms)
	for k := range l {
		l[k] = api.Term{C: all[s.below(len(all))], E: make([]int, n)}
		for i := range n {
			l[k].E[i] = s.below(high)
		}
	}
	return l
}

// samples are polynomials in n variables, plain or not.
func samples(n int) [][]api.Term {
	s := noise(n)
	e := s.list(n, 1, 4)[0].E
	one := make([]int, n)
	all := [][]api.Term{
		nil, {},
		{of(0, e...)},
		{of(5, e...), of(-5, e...)},
		{over(7, 0, e...), of(0, one...)},
		{of(1, one...)}, {of(-1, one...)}, {over(-6, 4, one...)},
		{of(1, e...)}, {of(-1, e...)}, {over(1, 2, e...)}, {over(-2, 4, e...)},
		{of(2, e...), over(1, 3, e...), over(2, 3, e...)},
		{of(1, slices.Repeat([]int{limit}, n)...), of(-1, one...)},
	}
	for terms := 1; terms <= 8; terms++ {
		all = append(all, s.list(n, terms, 4))
	}
	return append(all, s.list(n, 30, 2), s.list(n, 30, 3), s.list(n, 9, limit+1))
}

// key is a monomial as a map takes it, without regard to the ring.
type key [6]int

func keyOf(e []int) key {
	var k key
	copy(k[:], e)
	return k
}

// sum is a polynomial as the tests reckon: coefficients, none of them 0.
type sum map[key]*big.Rat

func (s sum) add(k key, c *big.Rat) {
	total := new(big.Rat).Set(c)
	if old, ok := s[k]; ok {
		total.Add(total, old)
	}
	if total.Sign() == 0 {
		delete(s, k)
	} else {
		s[k] = total
	}
}

func (s sum) addAll(t sum, times int64) {
	for k, c := range t {
		s.add(k, new(big.Rat).Mul(c, big.NewRat(times, 1)))
	}
}

// times returns the product, and whether it may be.
func (s sum) times(t sum) (sum, bool) {
	all := sum{}
	if len(s)*len(t) > 4096 {
		return nil, false
	}
	for k, c := range s {
		for l, d := range t {
			product := k
			for i := range l {
				product[i] += l[i]
				if product[i] > limit {
					return nil, false
				}
			}
			all.add(product, new(big.Rat).Mul(c, d))
		}
	}
	return all, true
}

func sumOf(p []api.Term) sum {
	s := sum{}
	for _, t := range p {
		s.add(keyOf(t.E), toBig(t.C))
	}
	return s
}

func bigLimbs(a []uint32) *big.Int {
	z := new(big.Int)
	for i := len(a) - 1; i >= 0; i-- {
		z.Lsh(z, 32)
		z.Or(z, big.NewInt(int64(a[i])))
	}
	return z
}

func toBig(x api.Rat) *big.Rat {
	num, den := bigLimbs(x.Num.Mag), bigLimbs(x.Den)
	if den.Sign() == 0 {
		return new(big.Rat)
	}
	if x.Num.Neg {
		num.Neg(num)
	}
	return new(big.Rat).SetFrac(num, den)
}

// isSame tells whether two lists have the same form, not only the same value.
func isSame(p, q []api.Term) bool {
	return slices.EqualFunc(p, q, func(s, t api.Term) bool {
		return s.C.Num.Neg == t.C.Num.Neg && slices.Equal(s.C.Num.Mag, t.C.Num.Mag) && slices.Equal(s.C.Den, t.C.Den) && slices.Equal(s.E, t.E)
	})
}

// short keeps a text in a failure's report from filling the screen.
func short(s string) string {
	if len(s) > 200 {
		return s[:100] + " .. " + s[len(s)-100:]
	}
	return s
}

// expectText holds Print against a text.
func expectText(t *testing.T, r api.Ring, p []api.Term, want string) {
	t.Helper()
	if got, e := notation.Print(r, p); got != want || e != api.OK {
		t.Errorf("Print of %v: %q, error %d, not %q", p, short(got), e, short(want))
	}
}

func TestH1Example(t *testing.T) {
	expectText(t, plane(), []api.Term{of(3, 2, 1), over(-1, 2, 1, 0), of(5, 0, 0)}, "3*x^2*y - 1/2*x + 5")
}

func TestH1Zero(t *testing.T) {
	for _, p := range [][]api.Term{
		nil, {},
		{of(0, 0, 0)}, {of(0, 3, 1)}, {over(5, 0, 1, 1)}, {over(0, 0, 0, 0)}, {{E: []int{2, 2}}},
		{of(4, 1, 2), of(-4, 1, 2)},
		{over(1, 3, 0, 0), over(1, 6, 0, 0), over(-1, 2, 0, 0)},
	} {
		for _, r := range rings(2) {
			expectText(t, r, p, "0")
		}
	}
}

// Each coefficient stands alone and beside monomials, at the first and at a later
// term.
func TestH1Coefficients(t *testing.T) {
	for _, x := range []struct {
		num, den              int
		alone, beside, behind string
	}{
		{1, 1, "1", "x", "y + x"},
		{-1, 1, "-1", "-x", "y - x"},
		{2, 1, "2", "2*x", "y + 2*x"},
		{-2, 1, "-2", "-2*x", "y - 2*x"},
		{10, 1, "10", "10*x", "y + 10*x"},
		{-11, 1, "-11", "-11*x", "y - 11*x"},
		{1, 2, "1/2", "1/2*x", "y + 1/2*x"},
		{-1, 2, "-1/2", "-1/2*x", "y - 1/2*x"},
		{-3, 4, "-3/4", "-3/4*x", "y - 3/4*x"},
		{7, 3, "7/3", "7/3*x", "y + 7/3*x"},
		{6, 4, "3/2", "3/2*x", "y + 3/2*x"},
		{-4, 4, "-1", "-x", "y - x"},
		{9, 9, "1", "x", "y + x"},
		{math.MaxInt, 1, "9223372036854775807", "9223372036854775807*x", "y + 9223372036854775807*x"},
		{math.MinInt, 1, "-9223372036854775808", "-9223372036854775808*x", "y - 9223372036854775808*x"},
	} {
		r := api.Ring{Names: []string{"y", "x"}}
		expectText(t, r, []api.Term{over(x.num, x.den, 0, 0)}, x.alone)
		expectText(t, r, []api.Term{over(x.num, x.den, 0, 1)}, x.beside)
		expectText(t, r, []api.Term{over(x.num, x.den, 0, 1), of(1, 1, 0)}, x.behind)
		constant := "x + " + strings.TrimPrefix(x.alone, "-")
		if x.num < 0 {
			constant = "x - " + strings.TrimPrefix(x.alone, "-")
		}
		expectText(t, r, []api.Term{of(1, 0, 1), over(x.num, x.den, 0, 0)}, constant)
	}
}

func TestH1Exponents(t *testing.T) {
	r := rings(3)[0]
	for want, e := range map[string][]int{
		"3":             {0, 0, 0},
		"3*x":           {1, 0, 0},
		"3*y":           {0, 1, 0},
		"3*x1":          {0, 0, 1},
		"3*x^2":         {2, 0, 0},
		"3*x*y":         {1, 1, 0},
		"3*x*x1":        {1, 0, 1},
		"3*x*y*x1":      {1, 1, 1},
		"3*y^10*x1^9":   {0, 10, 9},
		"3*x^65536*y":   {limit, 1, 0},
		"3*x^2*y^3*x1":  {2, 3, 1},
		"3*x*y^65535":   {1, limit - 1, 0},
		"3*x1^65536":    {0, 0, limit},
		"3*x^100*x1^11": {100, 0, 11},
	} {
		expectText(t, r, []api.Term{of(3, e...)}, want)
		expectText(t, r, []api.Term{over(-1, 3, e...)}, "-1/"+want)
		if want != "3" {
			expectText(t, r, []api.Term{of(1, e...)}, want[2:])
			expectText(t, r, []api.Term{of(-1, e...)}, "-"+want[2:])
		}
	}
}

func TestH1Names(t *testing.T) {
	r := rings(6)[0]
	expectText(t, r, []api.Term{of(-1, 1, 2, 3, 4, 5, 6)}, "-x*y^2*x1^3*Zy^4*aB3dE6gH^5*A^6")
	expectText(t, r, []api.Term{of(7, 0, 0, 1, 0, 1, 1), over(-7, 2, 0, 0, 0, 1, 0, 0)}, "7*x1*aB3dE6gH*A - 7/2*Zy")
	expectText(t, api.Ring{Names: []string{"q"}}, []api.Term{of(1, 1)}, "q")
}

// Each order has its own text of the same terms.
func TestH1Orders(t *testing.T) {
	p := []api.Term{of(1, 0, 0, 0), of(2, 0, 0, 7), of(-3, 0, 2, 0), of(4, 1, 0, 1), over(5, 2, 1, 0, 0), of(-1, 0, 1, 2)}
	for i, want := range []string{
		"4*x*x1 + 5/2*x - 3*y^2 - y*x1^2 + 2*x1^7 + 1",
		"2*x1^7 - y*x1^2 + 4*x*x1 - 3*y^2 + 5/2*x + 1",
		"2*x1^7 - y*x1^2 - 3*y^2 + 4*x*x1 + 5/2*x + 1",
		"4*x*x1 + 5/2*x + 2*x1^7 - y*x1^2 - 3*y^2 + 1",
		"-3*y^2 + 4*x*x1 + 5/2*x - y*x1^2 + 2*x1^7 + 1",
	} {
		expectText(t, rings(3)[i], p, want)
	}
}

func TestH1NotPlain(t *testing.T) {
	r := plane()
	expectText(t, r, []api.Term{of(1, 0, 1), of(1, 1, 0), of(2, 0, 1), of(0, 2, 0)}, "x + 3*y")
	expectText(t, r, []api.Term{of(5, 0, 0), of(1, 2, 0), of(-5, 0, 0)}, "x^2")
	expectText(t, r, []api.Term{over(1, 2, 1, 1), over(1, 2, 1, 1)}, "x*y")
	expectText(t, r, []api.Term{over(1, 2, 1, 1), over(-3, 2, 1, 1)}, "-x*y")
	long := api.Rat{Num: api.Int{Neg: true, Mag: []uint32{6, 0}}, Den: []uint32{4, 0, 0}}
	expectText(t, r, []api.Term{{C: long, E: []int{0, 1}}}, "-3/2*y")
	nothing := api.Rat{Num: api.Int{Neg: true, Mag: []uint32{0}}, Den: []uint32{1}}
	expectText(t, r, []api.Term{{C: nothing, E: []int{0, 1}}, of(1, 0, 0)}, "1")
}

func TestH1LongNumbers(t *testing.T) {
	digits := strings.Repeat("9", 30000)
	n, _ := new(big.Int).SetString(digits, 10)
	var limbs []uint32
	for rest := new(big.Int).Set(n); rest.Sign() > 0; rest.Rsh(rest, 32) {
		limbs = append(limbs, uint32(rest.Uint64()))
	}
	c := api.Rat{Num: api.Int{Neg: true, Mag: limbs}, Den: []uint32{1}}
	expectText(t, plane(), []api.Term{{C: c, E: []int{1, 0}}}, "-"+digits+"*x")
	c = api.Rat{Num: api.Int{Mag: []uint32{1}}, Den: limbs}
	expectText(t, plane(), []api.Term{of(1, 1, 0), {C: c, E: []int{0, 0}}}, "x + 1/"+digits)
}

// textOf is the text as the words of the chapter say it, of what the tests
// reckon.
func textOf(r api.Ring, s sum) string {
	keys := make([]key, 0, len(s))
	for k := range s {
		keys = append(keys, k)
	}
	n := len(r.Names)
	slices.SortFunc(keys, func(a, b key) int { return mono.Cmp(r, b[:n], a[:n]) })
	text := ""
	for _, k := range keys {
		text += map[bool]string{true: " - ", false: " + "}[s[k].Sign() < 0]
		c := new(big.Rat).Abs(s[k]).RatString()
		for i, name := range r.Names {
			if k[i] > 0 {
				c += "*" + name
			}
			if k[i] > 1 {
				c += "^" + big.NewInt(int64(k[i])).String()
			}
		}
		text += strings.TrimPrefix(c, "1*")
	}
	switch {
	case text == "":
		return "0"
	case text[1] == '-':
		return "-" + text[3:]
	}
	return text[3:]
}

func TestH1Reference(t *testing.T) {
	for _, r := range allRings() {
		for _, p := range samples(len(r.Names)) {
			expectText(t, r, p, textOf(r, sumOf(p)))
		}
	}
}

// Print returns the error of Norm, and no text beside it.
func TestH1Errors(t *testing.T) {
	good := []api.Term{of(1, 1, 0), of(2, 0, 0)}
	for _, r := range wrongRings() {
		for _, p := range [][]api.Term{nil, good, {of(1, -1, 0)}, {of(1)}} {
			expectNoText(t, r, p, api.ErrRing)
		}
	}
	for _, e := range [][]int{nil, {}, {1}, {1, 1, 1}, {-1, 0}, {0, -1}, {limit + 1, 0}, {0, limit + 1}, {math.MinInt, 0}, {0, math.MaxInt}} {
		for _, c := range coefficients() {
			for k := range 3 {
				for _, r := range rings(2) {
					expectNoText(t, r, slices.Insert(slices.Clone(good), k, api.Term{C: c, E: e}), api.ErrPoly)
				}
			}
		}
	}
}

func expectNoText(t *testing.T, r api.Ring, p []api.Term, want api.Errno) {
	t.Helper()
	got, e := notation.Print(r, p)
	_, f := poly.Norm(r, p)
	if got != "" || e != want || f != want {
		t.Errorf("Print of %v in %v: %q, error %d, not %d, that of Norm being %d", p, r, got, e, want, f)
	}
}

// Arguments are not modified, nor the memory behind them.
func TestH1Memory(t *testing.T) {
	r := plane()
	e := []int{1, 2, 77}
	limbs := []uint32{6, 0, 99}
	terms := []api.Term{
		{C: api.Rat{Num: api.Int{Neg: true, Mag: limbs[:2]}, Den: []uint32{4}}, E: e[:2]},
		of(3, 5, 0), of(1, 1, 2), of(9, 9, 9),
	}
	want := slices.Clone(terms)
	expectText(t, r, terms[:3], "3*x^5 - 1/2*x*y^2")
	if !isSame(terms, want) || e[2] != 77 || e[0] != 1 || limbs[0] != 6 || limbs[2] != 99 {
		t.Errorf("Print modified %v to %v", want, terms)
	}
	expectText(t, r, terms[:3], "3*x^5 - 1/2*x*y^2")
}
