package whole_test

import (
	"math"
	"math/big"
	"slices"
	"strconv"
	"strings"
	"testing"

	"primrose/api"
	"primrose/whole"
)

const top = math.MaxUint32

// magnitudes are lists of many lengths and shapes, plain or with leading zero
// limbs; they are the same in each run.
func magnitudes() [][]uint32 {
	all := [][]uint32{
		nil, {}, {0}, {0, 0, 0}, {1}, {1, 0, 0}, {2}, {3}, {5}, {6}, {10, 0}, {12}, {1 << 31}, {top}, {top, 0},
		{0, 1}, {1, 1}, {0, 1, 0}, {0, 1 << 31}, {1, 1 << 31}, {top, 1<<31 - 1}, {top, 1<<31 - 1, 0, 0}, {top, top},
		{0, 0, 1}, {1, 0, 1}, {top, top, top}, {0, 0, 1 << 31}, {top, 0, top, 0, top, 0},
	}
	seed := uint64(1)
	for _, length := range []int{1, 2, 3, 4, 7, 12} {
		all = append(all, noise(&seed, length), append(noise(&seed, length), 0, 0))
	}
	return all
}

// noise returns limbs of which some are extreme, as those lead to rare cases.
func noise(seed *uint64, length int) []uint32 {
	limbs := make([]uint32, length)
	for i := range limbs {
		*seed = *seed*6364136223846793005 + 1442695040888963407
		limbs[i] = uint32(*seed >> 32)
		switch *seed >> 29 % 8 {
		case 0:
			limbs[i] = 0
		case 1:
			limbs[i] = top
		}
	}
	return limbs
}

// samples are integers with each magnitude and either sign, 0 with Neg true
// among them.
func samples() []api.Int {
	var all []api.Int
	for _, mag := range magnitudes() {
		all = append(all, api.Int{Mag: mag}, api.Int{Neg: true, Mag: mag})
	}
	return all
}

func zeros() []api.Int {
	var all []api.Int
	for _, mag := range [][]uint32{nil, {}, {0}, {0, 0, 0}} {
		all = append(all, api.Int{Mag: mag}, api.Int{Neg: true, Mag: mag})
	}
	return all
}

func toBig(a api.Int) *big.Int {
	z := new(big.Int)
	for i := len(a.Mag) - 1; i >= 0; i-- {
		z.Lsh(z, 32)
		z.Or(z, big.NewInt(int64(a.Mag[i])))
	}
	if a.Neg {
		z.Neg(z)
	}
	return z
}

func fromBig(x *big.Int) api.Int {
	var mag []uint32
	mask := big.NewInt(top)
	for rest := new(big.Int).Abs(x); rest.Sign() > 0; rest.Rsh(rest, 32) {
		mag = append(mag, uint32(new(big.Int).And(rest, mask).Uint64()))
	}
	return api.Int{Neg: x.Sign() < 0, Mag: mag}
}

// same tells whether two integers have the same form, not only the same value.
func same(a, b api.Int) bool {
	return a.Neg == b.Neg && slices.Equal(a.Mag, b.Mag)
}

// expect holds an answer against an integer's one plain form.
func expect(t *testing.T, got api.Int, want *big.Int, what string, args ...api.Int) {
	t.Helper()
	if !same(got, fromBig(want)) {
		t.Fatalf("%s of %v: %v, not %v", what, args, got, fromBig(want))
	}
}

func forPairs(check func(a, b api.Int, x, y *big.Int)) {
	all := samples()
	for _, a := range all {
		for _, b := range all {
			check(a, b, toBig(a), toBig(b))
		}
	}
}

func TestB1Plain(t *testing.T) {
	for _, a := range samples() {
		expect(t, whole.Plain(a), toBig(a), "Plain", a)
	}
	if a := whole.Plain(api.Int{Neg: true, Mag: []uint32{0, 7, 0, 0}}); !same(a, api.Int{Neg: true, Mag: []uint32{0, 7}}) {
		t.Errorf("Plain: %v", a)
	}
	for _, zero := range zeros() {
		if a := whole.Plain(zero); a.Neg || len(a.Mag) != 0 {
			t.Errorf("Plain of %v: %v", zero, a)
		}
	}
}

// ints are those near the powers of 2, up to the greatest and the least int.
func ints() []int {
	all := []int{0, 5, -5, 12, -12, 1000000000, math.MaxInt, math.MaxInt - 1, math.MinInt, math.MinInt + 1}
	for n := range 63 {
		for d := -1; d <= 1; d++ {
			all = append(all, 1<<n+d, -1<<n+d)
		}
	}
	return all
}

func TestB2Of(t *testing.T) {
	for _, n := range ints() {
		expect(t, whole.Of(n), big.NewInt(int64(n)), "Of "+strconv.Itoa(n))
	}
	if a := whole.Of(-5); !same(a, api.Int{Neg: true, Mag: []uint32{5}}) {
		t.Errorf("Of(-5): %v", a)
	}
	if a := whole.Of(math.MinInt); !same(a, api.Int{Neg: true, Mag: []uint32{0, 1 << 31}}) {
		t.Errorf("Of the least int: %v", a)
	}
}

func TestB2Small(t *testing.T) {
	for _, a := range samples() {
		want, fits := 0, toBig(a).BitLen() <= 63
		if fits {
			want = int(toBig(a).Int64())
		}
		if n, ok := whole.Small(a); n != want || ok != fits {
			t.Errorf("Small of %v: %d %t", a, n, ok)
		}
	}
	for _, n := range ints() {
		back, ok := whole.Small(whole.Of(n))
		if n == math.MinInt {
			if back != 0 || ok {
				t.Errorf("Small of the least int: %d %t", back, ok)
			}
		} else if back != n || !ok {
			t.Errorf("Small of Of(%d): %d %t", n, back, ok)
		}
	}
}

func TestB2SmallAtTheEdge(t *testing.T) {
	for _, x := range []struct {
		a    api.Int
		want int
		fits bool
	}{
		{api.Int{Mag: []uint32{top, 1<<31 - 1, 0}}, math.MaxInt, true},
		{api.Int{Neg: true, Mag: []uint32{top, 1<<31 - 1, 0}}, -math.MaxInt, true},
		{api.Int{Mag: []uint32{0, 1 << 31}}, 0, false},
		{api.Int{Neg: true, Mag: []uint32{0, 1 << 31}}, 0, false},
		{api.Int{Mag: []uint32{5, 0, 1}}, 0, false},
		{api.Int{Neg: true, Mag: []uint32{5, 0, 1}}, 0, false},
		{api.Int{Neg: true, Mag: []uint32{0, 0, 0, 0}}, 0, true},
	} {
		if n, ok := whole.Small(x.a); n != x.want || ok != x.fits {
			t.Errorf("Small of %v: %d %t", x.a, n, ok)
		}
	}
}

func TestB3Sign(t *testing.T) {
	for _, a := range samples() {
		if s := whole.Sign(a); s != toBig(a).Sign() {
			t.Errorf("Sign of %v: %d", a, s)
		}
	}
	for _, zero := range zeros() {
		if s := whole.Sign(zero); s != 0 {
			t.Errorf("Sign of %v: %d", zero, s)
		}
	}
}

func TestB3Cmp(t *testing.T) {
	forPairs(func(a, b api.Int, x, y *big.Int) {
		if c := whole.Cmp(a, b); c != x.Cmp(y) {
			t.Fatalf("Cmp of %v and %v: %d", a, b, c)
		}
	})
}

func TestB4Neg(t *testing.T) {
	for _, a := range samples() {
		expect(t, whole.Neg(a), new(big.Int).Neg(toBig(a)), "Neg", a)
	}
	for _, zero := range zeros() {
		expect(t, whole.Neg(zero), new(big.Int), "Neg", zero)
	}
}

func TestB4AddSubMul(t *testing.T) {
	forPairs(func(a, b api.Int, x, y *big.Int) {
		expect(t, whole.Add(a, b), new(big.Int).Add(x, y), "Add", a, b)
		expect(t, whole.Sub(a, b), new(big.Int).Sub(x, y), "Sub", a, b)
		expect(t, whole.Mul(a, b), new(big.Int).Mul(x, y), "Mul", a, b)
	})
}

func TestB4SmallNumbers(t *testing.T) {
	for a := -20; a <= 20; a++ {
		for b := -20; b <= 20; b++ {
			x, y := whole.Of(a), whole.Of(b)
			for _, z := range []struct {
				got  api.Int
				want int
			}{{whole.Neg(x), -a}, {whole.Add(x, y), a + b}, {whole.Sub(x, y), a - b}, {whole.Mul(x, y), a * b}} {
				if !same(z.got, whole.Of(z.want)) {
					t.Errorf("%d and %d: %v, not %d", a, b, z.got, z.want)
				}
			}
		}
	}
}

func TestB5Div(t *testing.T) {
	forPairs(func(a, b api.Int, x, y *big.Int) {
		if y.Sign() == 0 {
			return
		}
		q, r, ok := whole.Div(a, b)
		if !ok {
			t.Fatalf("Div of %v and %v: false", a, b)
		}
		quotient, rest := new(big.Int).DivMod(x, y, new(big.Int))
		expect(t, q, quotient, "quotient", a, b)
		expect(t, r, rest, "remainder", a, b)
	})
}

func TestB5DivOfSigns(t *testing.T) {
	for _, x := range [][4]int{
		{7, 2, 3, 1}, {-7, 2, -4, 1}, {7, -2, -3, 1}, {-7, -2, 4, 1},
		{6, 3, 2, 0}, {-6, 3, -2, 0}, {6, -3, -2, 0}, {-6, -3, 2, 0},
		{1, 5, 0, 1}, {-1, 5, -1, 4}, {1, -5, 0, 1}, {-1, -5, 1, 4}, {0, 5, 0, 0}, {0, -5, 0, 0},
		{-1, 1, -1, 0}, {-1, -1, 1, 0}, {math.MinInt, math.MaxInt, -2, math.MaxInt - 1},
	} {
		q, r, ok := whole.Div(whole.Of(x[0]), whole.Of(x[1]))
		if !ok || !same(q, whole.Of(x[2])) || !same(r, whole.Of(x[3])) {
			t.Errorf("Div of %d and %d: %v %v %t", x[0], x[1], q, r, ok)
		}
	}
}

func TestB5DivByZero(t *testing.T) {
	for _, a := range samples() {
		for _, zero := range zeros() {
			q, r, ok := whole.Div(a, zero)
			if ok || !same(q, api.Int{}) || !same(r, api.Int{}) {
				t.Errorf("Div of %v and %v: %v %v %t", a, zero, q, r, ok)
			}
		}
	}
}

func TestB6Gcd(t *testing.T) {
	forPairs(func(a, b api.Int, x, y *big.Int) {
		want := new(big.Int).GCD(nil, nil, new(big.Int).Abs(x), new(big.Int).Abs(y))
		expect(t, whole.Gcd(a, b), want, "Gcd", a, b)
	})
	for _, x := range [][3]int{{-12, 18, 6}, {12, -18, 6}, {-12, -18, 6}, {0, -5, 5}, {-5, 0, 5}, {0, 0, 0}, {-7, 3, 1}} {
		if g := whole.Gcd(whole.Of(x[0]), whole.Of(x[1])); !same(g, whole.Of(x[2])) {
			t.Errorf("Gcd of %d and %d: %v", x[0], x[1], g)
		}
	}
}

func TestB7Text(t *testing.T) {
	for _, a := range samples() {
		if s := whole.Text(a); s != toBig(a).String() {
			t.Errorf("Text of %v: %s", a, s)
		}
	}
	for _, n := range ints() {
		if s := whole.Text(whole.Of(n)); s != strconv.Itoa(n) {
			t.Errorf("Text of %d: %s", n, s)
		}
	}
	for _, zero := range zeros() {
		if s := whole.Text(zero); s != "0" {
			t.Errorf("Text of %v: %s", zero, s)
		}
	}
}

func TestB7Parse(t *testing.T) {
	digits := []string{"1", "9", "10", "12", "4294967295", "4294967296", "9223372036854775808", "18446744073709551616"}
	digits = append(digits, strings.Repeat("9", 10000), "1"+strings.Repeat("0", 9999), strings.Repeat("1234567890", 1000))
	texts := append([]string{"0"}, digits...)
	for _, s := range digits {
		texts = append(texts, "-"+s)
	}
	for _, s := range texts {
		a, e := whole.Parse(s)
		want, _ := new(big.Int).SetString(s, 10)
		if e != api.OK {
			t.Errorf("Parse of %.20q, %d bytes: error %d", s, len(s), e)
		}
		expect(t, a, want, "Parse")
	}
}

func TestB7ParseOfNoText(t *testing.T) {
	wrong := []string{
		"", " ", "-", "--", "+", "-0", "--0", "--1", "---1", "+1", "-+1", "+-1", "-01", "00", "01", "-00", "007",
		"0-", "1-", "1-2", "-1-", "-1-2", " 1", " -1", "- 1", "-1 ", "1 ", "-1\n", "-x", "-1x", "x-1", "-0x1", "-1_000",
		"-1.0", "-1e3", "-1/2", "\u22121", "-\u0661", "\xff", "-\xff", "-\x00", "\x00-1",
		"0" + strings.Repeat("1", 10001), "-0" + strings.Repeat("1", 10001), "-" + strings.Repeat("0", 10001),
		strings.Repeat("1", 10001) + "x", "-" + strings.Repeat("1", 10001) + "x", "--" + strings.Repeat("1", 10001),
		"+" + strings.Repeat("1", 10001), strings.Repeat("-", 10001), "-" + strings.Repeat("1", 10000) + "-",
	}
	for _, s := range wrong {
		if a, e := whole.Parse(s); e != api.ErrText || !same(a, api.Int{}) {
			t.Errorf("Parse of %.20q, %d bytes: %v, error %d", s, len(s), a, e)
		}
	}
}

func TestB7ParseOfTooManyDigits(t *testing.T) {
	for _, length := range []int{10001, 10002, 20000, 100000} {
		for _, sign := range []string{"", "-"} {
			if a, e := whole.Parse(sign + strings.Repeat("1", length)); e != api.ErrLong || !same(a, api.Int{}) {
				t.Errorf("Parse of %q and %d digits: %v, error %d", sign, length, a, e)
			}
		}
	}
}

func TestB7ParseUndoesText(t *testing.T) {
	for _, a := range samples() {
		if back, e := whole.Parse(whole.Text(a)); e != api.OK || !same(back, whole.Plain(a)) {
			t.Errorf("%v: %v, error %d", a, back, e)
		}
	}
	for n := -3000; n <= 3000; n++ {
		if back, e := whole.Parse(strconv.Itoa(n)); e != api.OK || !same(back, whole.Of(n)) {
			t.Errorf("%d: %v, error %d", n, back, e)
		}
	}
}

func TestB8Ring(t *testing.T) {
	all := samples()
	for _, a := range all {
		if !same(whole.Add(a, whole.Neg(a)), api.Int{}) || !same(whole.Neg(whole.Neg(a)), whole.Plain(a)) {
			t.Fatalf("the negative of %v", a)
		}
		for _, b := range all {
			if !same(whole.Add(a, b), whole.Add(b, a)) || !same(whole.Mul(a, b), whole.Mul(b, a)) {
				t.Fatalf("%v and %v don't commute", a, b)
			}
			for _, c := range all {
				expectRing(t, a, b, c)
			}
		}
	}
}

func expectRing(t *testing.T, a, b, c api.Int) {
	t.Helper()
	if !same(whole.Add(whole.Add(a, b), c), whole.Add(a, whole.Add(b, c))) {
		t.Fatalf("sums of %v, %v, %v", a, b, c)
	}
	if !same(whole.Mul(whole.Mul(a, b), c), whole.Mul(a, whole.Mul(b, c))) {
		t.Fatalf("products of %v, %v, %v", a, b, c)
	}
	if !same(whole.Mul(a, whole.Add(b, c)), whole.Add(whole.Mul(a, b), whole.Mul(a, c))) {
		t.Fatalf("%v times %v + %v", a, b, c)
	}
}

func TestB8Division(t *testing.T) {
	forPairs(func(a, b api.Int, x, y *big.Int) {
		q, r, ok := whole.Div(a, b)
		if ok == (whole.Sign(b) == 0) {
			t.Fatalf("Div of %v and %v: %t", a, b, ok)
		}
		if ok && !same(whole.Add(whole.Mul(q, b), r), whole.Plain(a)) {
			t.Fatalf("Div of %v and %v: %v %v", a, b, q, r)
		}
	})
}

func TestB8Order(t *testing.T) {
	all := samples()
	for _, a := range all {
		for _, b := range all {
			order := whole.Cmp(a, b)
			if whole.Cmp(b, a) != -order || (order == 0) != same(whole.Plain(a), whole.Plain(b)) {
				t.Fatalf("the order of %v and %v", a, b)
			}
			for _, c := range all {
				if whole.Cmp(whole.Add(a, c), whole.Add(b, c)) != order {
					t.Fatalf("the order of %v and %v, both plus %v", a, b, c)
				}
				if order <= 0 && whole.Cmp(b, c) <= 0 && whole.Cmp(a, c) > 0 {
					t.Fatalf("the order of %v, %v and %v", a, b, c)
				}
			}
		}
	}
}

// allAnswers are the integers that the calls answer for x and y.
func allAnswers(x, y api.Int) []api.Int {
	q, r, _ := whole.Div(x, y)
	none, rest, _ := whole.Div(y, x)
	parsed, _ := whole.Parse(whole.Text(x))
	zero := api.Int{Neg: true, Mag: []uint32{0}}
	return []api.Int{
		whole.Plain(x), whole.Plain(y), whole.Neg(x), whole.Neg(y), whole.Add(x, y), whole.Add(x, x), whole.Add(x, zero),
		whole.Add(zero, y), whole.Sub(x, y), whole.Sub(y, x), whole.Sub(x, zero), whole.Sub(zero, y), whole.Mul(x, y),
		whole.Mul(x, whole.Of(1)), q, r, none, rest, whole.Gcd(x, y), whole.Gcd(x, zero), whole.Gcd(zero, x), parsed,
		whole.Of(1 << 40), whole.Of(math.MinInt),
	}
}

// Arguments keep their limbs, and so does the memory behind them (R3); each
// answer has memory of its own; what is done to it changes no later answer (R4).
func TestMemory(t *testing.T) {
	for _, neg := range []bool{false, true} {
		expectOwnMemory(t, neg, false)
		expectOwnMemory(t, neg, true)
	}
}

func expectOwnMemory(t *testing.T, negA, negB bool) {
	t.Helper()
	longer := []uint32{0xabcdef01, 3, 1 << 31, 0, 0, 77, 88}
	other := []uint32{9, 0xfffffff0, 5, 0, 55}
	a, b := slices.Clone(longer), slices.Clone(other)
	x, y := api.Int{Neg: negA, Mag: a[:5]}, api.Int{Neg: negB, Mag: b[:4]}
	answers := allAnswers(x, y)
	for i, want := range allAnswers(x, y) {
		if !same(answers[i], want) {
			t.Errorf("answer %d was changed through another one", i)
		}
		for k := range answers[i].Mag {
			answers[i].Mag[k] = 0x55555555
		}
		_ = append(answers[i].Mag, 0x55555555)
		if !slices.Equal(a, longer) || !slices.Equal(b, other) {
			t.Fatalf("answer %d: an argument was changed", i)
		}
	}
	whole.Small(x)
	whole.Sign(x)
	whole.Cmp(x, y)
	if !slices.Equal(a, longer) || !slices.Equal(b, other) {
		t.Fatal("an argument was changed")
	}
}
