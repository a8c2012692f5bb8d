package nat_test

import (
	"math"
	"math/big"
	"slices"
	"strconv"
	"strings"
	"testing"

	"primrose/api"
	"primrose/nat"
)

// samples are numbers of many lengths and shapes, plain or with leading zero
// limbs; they are the same in each run.
func samples() [][]uint32 {
	const top = 1<<32 - 1
	all := [][]uint32{
		nil, {}, {0}, {0, 0, 0}, {1}, {1, 0, 0}, {2}, {3}, {10, 0}, {1 << 31}, {top}, {top, 0},
		{0, 1}, {1, 1}, {0, 1, 0}, {0, 1 << 31}, {top, 1<<31 - 1}, {top, top}, {999999999}, {1000000000},
		{0, 0, 1}, {1, 0, 1}, {top, top, top}, {0, 0, 1 << 31}, {0, top, 1 << 31}, {0, 0, 0, 1},
		{top, 0, top, 0, top, 0}, {0, 0, 0, 0, 0, 0, 0, 1},
	}
	seed := uint64(1)
	for _, length := range []int{1, 2, 2, 3, 3, 4, 5, 7, 8, 13, 30, 31} {
		all = append(all, noise(&seed, length), append(noise(&seed, length), 0, 0))
	}
	return all
}

// noise returns limbs of which some are extreme, as those lead to rare cases.
func noise(seed *uint64, length int) []uint32 {
	limbs := make([]uint32, length)
	for i := range limbs {
		*seed = *seed*6364136223846793005 + 1442695040888963407
		limb := uint32(*seed >> 32)
		switch *seed >> 29 % 8 {
		case 0:
			limb = 0
		case 1:
			limb = math.MaxUint32
		case 2:
			limb = 1 << 31
		}
		limbs[i] = limb
	}
	return limbs
}

func toBig(a []uint32) *big.Int {
	z := new(big.Int)
	for i := len(a) - 1; i >= 0; i-- {
		z.Lsh(z, 32)
		z.Or(z, big.NewInt(int64(a[i])))
	}
	return z
}

func fromBig(x *big.Int) []uint32 {
	var a []uint32
	mask := big.NewInt(math.MaxUint32)
	for rest := new(big.Int).Set(x); rest.Sign() > 0; rest.Rsh(rest, 32) {
		a = append(a, uint32(new(big.Int).And(rest, mask).Uint64()))
	}
	return a
}

// expect holds an answer against a number; equal lists of limbs also tell that
// the answer is plain.
func expect(t *testing.T, got []uint32, want *big.Int, what string, args ...[]uint32) {
	t.Helper()
	if !slices.Equal(got, fromBig(want)) {
		t.Fatalf("%s of %v: %v, not %v", what, args, got, fromBig(want))
	}
}

func forPairs(check func(a, b []uint32, x, y *big.Int)) {
	all := samples()
	for _, a := range all {
		for _, b := range all {
			check(a, b, toBig(a), toBig(b))
		}
	}
}

func TestA1Plain(t *testing.T) {
	for _, a := range samples() {
		expect(t, nat.Plain(a), toBig(a), "Plain", a)
	}
	if p := nat.Plain([]uint32{0, 7, 0, 0}); !slices.Equal(p, []uint32{0, 7}) {
		t.Errorf("Plain: %v", p)
	}
	if p := nat.Plain([]uint32{0, 0}); len(p) != 0 {
		t.Errorf("Plain of 0: %v", p)
	}
}

func TestA2Cmp(t *testing.T) {
	forPairs(func(a, b []uint32, x, y *big.Int) {
		if c := nat.Cmp(a, b); c != x.Cmp(y) {
			t.Fatalf("Cmp of %v and %v: %d", a, b, c)
		}
	})
}

func TestA3Add(t *testing.T) {
	forPairs(func(a, b []uint32, x, y *big.Int) {
		expect(t, nat.Add(a, b), new(big.Int).Add(x, y), "Add", a, b)
	})
}

func TestA3Sub(t *testing.T) {
	forPairs(func(a, b []uint32, x, y *big.Int) {
		d, ok := nat.Sub(a, b)
		if ok != (x.Cmp(y) >= 0) {
			t.Fatalf("Sub of %v and %v: %t", a, b, ok)
		}
		if ok {
			expect(t, d, new(big.Int).Sub(x, y), "Sub", a, b)
		} else if len(d) != 0 {
			t.Fatalf("Sub of %v and %v: %v beside false", a, b, d)
		}
	})
}

func TestA4Mul(t *testing.T) {
	forPairs(func(a, b []uint32, x, y *big.Int) {
		expect(t, nat.Mul(a, b), new(big.Int).Mul(x, y), "Mul", a, b)
	})
}

func expectDivision(t *testing.T, a, b []uint32) {
	t.Helper()
	q, r, ok := nat.DivMod(a, b)
	if !ok {
		t.Fatalf("DivMod of %v and %v: false", a, b)
	}
	x, y := new(big.Int).DivMod(toBig(a), toBig(b), new(big.Int))
	expect(t, q, x, "quotient", a, b)
	expect(t, r, y, "remainder", a, b)
}

func TestA5DivMod(t *testing.T) {
	forPairs(func(a, b []uint32, x, y *big.Int) {
		if y.Sign() > 0 {
			expectDivision(t, a, b)
		}
	})
}

func TestA5DivModByZero(t *testing.T) {
	for _, a := range samples() {
		for _, zero := range [][]uint32{nil, {}, {0}, {0, 0, 0}} {
			if q, r, ok := nat.DivMod(a, zero); ok || len(q) != 0 || len(r) != 0 {
				t.Errorf("DivMod of %v and %v: %v %v %t", a, zero, q, r, ok)
			}
		}
	}
}

// These are divisions whose estimates from the highest limbs are too great.
func TestA5DivModCorrections(t *testing.T) {
	const top = math.MaxUint32
	for _, x := range []struct{ a, b []uint32 }{
		{[]uint32{3, 0, 1 << 31}, []uint32{1, 0, 1 << 29}},
		{[]uint32{0, 0, 1 << 31, 1<<31 - 1}, []uint32{1, 0, 1 << 31}},
		{[]uint32{0, top - 1, 1 << 31}, []uint32{top, 1 << 31}},
		{[]uint32{0, 0, 0, 1 << 31}, []uint32{top, 0, 1 << 31}},
		{[]uint32{0, 0, 1, 1 << 31}, []uint32{top, top, 1 << 31}},
		{[]uint32{top, top, top, top}, []uint32{top, top}},
		{[]uint32{top - 1, top, top, top - 1}, []uint32{top, top, top}},
	} {
		expectDivision(t, x.a, x.b)
	}
	seed := uint64(5)
	for round := range 20000 {
		b := append(noise(&seed, 2+round%4), 1<<(round%32))
		q := noise(&seed, 1+round%3)
		product := nat.Mul(b, q)
		expectDivision(t, product, b)
		if less, ok := nat.Sub(product, []uint32{1}); ok {
			expectDivision(t, less, b)
		}
		expectDivision(t, noise(&seed, 7), b)
	}
}

func TestA6Gcd(t *testing.T) {
	forPairs(func(a, b []uint32, x, y *big.Int) {
		expect(t, nat.Gcd(a, b), new(big.Int).GCD(nil, nil, x, y), "Gcd", a, b)
	})
}

func TestA6GcdOfMultiples(t *testing.T) {
	seed := uint64(6)
	for round := range 5000 {
		common := noise(&seed, round%6)
		a := nat.Mul(common, noise(&seed, 1+round%11))
		b := nat.Mul(common, noise(&seed, 1+round%7))
		want := new(big.Int).GCD(nil, nil, toBig(a), toBig(b))
		expect(t, nat.Gcd(a, b), want, "Gcd", a, b)
	}
}

// Neighbours among Fibonacci's numbers need the most steps, all with the
// quotient 1; a number and its neighbour need the fewest.
func TestA6GcdOfNeighbours(t *testing.T) {
	a, b := []uint32{0}, []uint32{1}
	for range 1500 {
		a, b = b, nat.Add(a, b)
		expect(t, nat.Gcd(a, b), big.NewInt(1), "Gcd", a, b)
		expect(t, nat.Gcd(b, nat.Add(b, []uint32{1})), big.NewInt(1), "Gcd", b)
		expect(t, nat.Gcd(nat.Mul(a, b), nat.Mul(b, b)), toBig(b), "Gcd", a, b)
	}
}

func TestA7Bits(t *testing.T) {
	for _, a := range samples() {
		if n := nat.Bits(a); n != toBig(a).BitLen() {
			t.Errorf("Bits of %v: %d", a, n)
		}
	}
}

func TestA7Shift(t *testing.T) {
	for _, a := range samples() {
		for n := range 300 {
			up, ok := nat.Shift(a, n)
			expect(t, up, new(big.Int).Lsh(toBig(a), uint(n)), "Shift", a)
			down, also := nat.Shift(a, -n)
			expect(t, down, new(big.Int).Rsh(toBig(a), uint(n)), "Shift down", a)
			if !ok || !also {
				t.Fatalf("Shift of %v by %d: false", a, n)
			}
		}
	}
}

func TestA7ShiftByTheLimit(t *testing.T) {
	a := []uint32{5, 7, 0}
	up, ok := nat.Shift(a, 1<<20)
	expect(t, up, new(big.Int).Lsh(toBig(a), 1<<20), "Shift", a)
	back, also := nat.Shift(up, -1<<20)
	expect(t, back, toBig(a), "Shift back", a)
	gone, third := nat.Shift(a, -1<<20)
	zero, fourth := nat.Shift([]uint32{0, 0}, 1<<20)
	if !ok || !also || !third || !fourth || len(gone) != 0 || len(zero) != 0 {
		t.Error("Shift by 2^20, up or down")
	}
}

func TestA7ShiftBeyondTheLimit(t *testing.T) {
	for _, n := range []int{1<<20 + 1, -1<<20 - 1, 1 << 40, math.MaxInt, math.MinInt} {
		for _, a := range [][]uint32{nil, {0}, {5}, {0, 1}} {
			if z, ok := nat.Shift(a, n); ok || len(z) != 0 {
				t.Errorf("Shift of %v by %d: %v %t", a, n, z, ok)
			}
		}
	}
}

func TestA8Of(t *testing.T) {
	for _, n := range []int{0, 1, 9, math.MaxUint32 - 1, math.MaxUint32, 1 << 32, 1<<32 + 1, 1 << 62, math.MaxInt} {
		expect(t, nat.Of(n), big.NewInt(int64(n)), "Of")
		if back, ok := nat.Small(nat.Of(n)); !ok || back != n {
			t.Errorf("Small of Of(%d): %d %t", n, back, ok)
		}
	}
	for _, n := range []int{-1, -5, -1 << 32, math.MinInt} {
		if a := nat.Of(n); len(a) != 0 {
			t.Errorf("Of(%d): %v", n, a)
		}
	}
}

func TestA8Small(t *testing.T) {
	for _, a := range samples() {
		n, ok := nat.Small(a)
		want := 0
		if x := toBig(a); x.BitLen() <= 63 {
			want = int(x.Int64())
		}
		if ok != (toBig(a).BitLen() <= 63) || n != want {
			t.Errorf("Small of %v: %d %t", a, n, ok)
		}
	}
	if n, ok := nat.Small([]uint32{math.MaxUint32, 1<<31 - 1, 0, 0}); !ok || n != math.MaxInt {
		t.Errorf("63 digits: %d %t", n, ok)
	}
	if n, ok := nat.Small([]uint32{0, 1 << 31}); ok || n != 0 {
		t.Errorf("64 digits: %d %t", n, ok)
	}
}

func TestA9Text(t *testing.T) {
	for _, a := range samples() {
		if s := nat.Text(a); s != toBig(a).String() {
			t.Errorf("Text of %v: %s", a, s)
		}
	}
	power := nat.Of(1)
	for n := range 60 {
		text := "1" + strings.Repeat("0", n)
		below, _ := nat.Sub(power, []uint32{1})
		if s := nat.Text(power); s != text {
			t.Errorf("Text of 10^%d: %s", n, s)
		}
		if s := nat.Text(below); n > 0 && s != strings.Repeat("9", n) {
			t.Errorf("Text of 10^%d - 1: %s", n, s)
		}
		power = nat.Mul(power, nat.Of(10))
	}
}

// A text may be longer than those that Parse accepts.
func TestA9TextOfManyDigits(t *testing.T) {
	a, _ := nat.Shift([]uint32{1}, 1<<17)
	if s := nat.Text(a); s != new(big.Int).Lsh(big.NewInt(1), 1<<17).String() {
		t.Errorf("Text of 2^(2^17): %d digits", len(s))
	}
}

func TestA10Parse(t *testing.T) {
	texts := []string{"0", "1", "9", "10", "4294967295", "4294967296", "18446744073709551616"}
	for n := range 40 {
		texts = append(texts, "1"+strings.Repeat("0", n), strings.Repeat("9", n+1), "1"+strings.Repeat("0", n)+"1")
	}
	texts = append(texts, strings.Repeat("9", 10000), "1"+strings.Repeat("0", 9999), strings.Repeat("1234567890", 1000))
	for _, s := range texts {
		a, e := nat.Parse(s)
		want, _ := new(big.Int).SetString(s, 10)
		if e != api.OK {
			t.Errorf("Parse of %d digits: error %d", len(s), e)
		}
		expect(t, a, want, "Parse")
	}
}

func TestA10ParseErrors(t *testing.T) {
	wrong := []string{
		"", " ", "-", "+", "-1", "+1", "-0", "00", "01", "007", "0x1", "1x", "x1", " 1", "1 ", "1\n", "1_000",
		"1.0", "1e3", "1/2", "/", ":", "1/", "1:", "\x00", "1\x00", "\xff", "١", "1٢", "12345678901234567890a",
		"0" + strings.Repeat("1", 10001), strings.Repeat("0", 10001), strings.Repeat("1", 10001) + "x",
		strings.Repeat("1", 10000) + "x", "x" + strings.Repeat("1", 10001),
	}
	for _, s := range wrong {
		if a, e := nat.Parse(s); e != api.ErrText || len(a) != 0 {
			t.Errorf("Parse of %.20q: %v, error %d", s, a, e)
		}
	}
	for _, length := range []int{10001, 10002, 20000, 100000} {
		if a, e := nat.Parse(strings.Repeat("1", length)); e != api.ErrLong || len(a) != 0 {
			t.Errorf("Parse of %d digits: error %d", length, e)
		}
	}
}

func TestA11Laws(t *testing.T) {
	all := samples()
	for _, a := range all {
		for _, b := range all {
			if !slices.Equal(nat.Add(a, b), nat.Add(b, a)) || !slices.Equal(nat.Mul(a, b), nat.Mul(b, a)) {
				t.Fatalf("%v and %v don't commute", a, b)
			}
			for k := range all {
				expectLaws(t, a, b, all[k])
			}
		}
	}
}

func expectLaws(t *testing.T, a, b, c []uint32) {
	t.Helper()
	if !slices.Equal(nat.Add(nat.Add(a, b), c), nat.Add(a, nat.Add(b, c))) {
		t.Fatalf("sums of %v, %v, %v", a, b, c)
	}
	if !slices.Equal(nat.Mul(nat.Mul(a, b), c), nat.Mul(a, nat.Mul(b, c))) {
		t.Fatalf("products of %v, %v, %v", a, b, c)
	}
	if !slices.Equal(nat.Mul(a, nat.Add(b, c)), nat.Add(nat.Mul(a, b), nat.Mul(a, c))) {
		t.Fatalf("%v times %v + %v", a, b, c)
	}
}

func TestA11Division(t *testing.T) {
	forPairs(func(a, b []uint32, x, y *big.Int) {
		q, r, ok := nat.DivMod(a, b)
		if !ok {
			return
		}
		if nat.Cmp(r, b) >= 0 || nat.Cmp(nat.Add(nat.Mul(q, b), r), a) != 0 {
			t.Fatalf("DivMod of %v and %v: %v %v", a, b, q, r)
		}
	})
}

func TestA11ParseUndoesText(t *testing.T) {
	for _, a := range samples() {
		back, e := nat.Parse(nat.Text(a))
		if e != api.OK || !slices.Equal(back, nat.Plain(a)) {
			t.Errorf("%v: %v, error %d", a, back, e)
		}
	}
	for n := range 3000 {
		if back, e := nat.Parse(strconv.Itoa(n)); e != api.OK || nat.Text(back) != strconv.Itoa(n) {
			t.Errorf("%d: %v, error %d", n, back, e)
		}
	}
}

// allAnswers are the lists of limbs that the calls answer for x and y.
func allAnswers(x, y []uint32) [][]uint32 {
	difference, _ := nat.Sub(x, y)
	q, r, _ := nat.DivMod(x, y)
	none, whole, _ := nat.DivMod(y, x)
	still, _ := nat.Shift(x, 0)
	up, _ := nat.Shift(x, 40)
	down, _ := nat.Shift(x, -33)
	parsed, _ := nat.Parse(nat.Text(x))
	return [][]uint32{
		nat.Plain(x), nat.Plain(y), nat.Add(x, y), nat.Add(x, nil), difference, nat.Mul(x, y), nat.Mul(x, nat.Of(1)),
		q, r, none, whole, nat.Gcd(x, y), nat.Gcd(x, nil), nat.Gcd(nil, x), still, up, down, parsed, nat.Of(1 << 40),
	}
}

// Arguments keep their limbs, and so does the memory behind them (R3); each
// answer has memory of its own, and nothing behind it; what is done to it
// changes no later answer (R4).
func TestMemory(t *testing.T) {
	longer := []uint32{0xabcdef01, 3, 1 << 31, 0, 0, 77, 88}
	other := []uint32{9, 0xfffffff0, 5, 0, 55}
	a, b := slices.Clone(longer), slices.Clone(other)
	answers := allAnswers(a[:5], b[:4])
	for i, want := range allAnswers(a[:5], b[:4]) {
		if !slices.Equal(answers[i], want) {
			t.Errorf("answer %d was changed through another one", i)
		}
		if cap(answers[i]) != len(answers[i]) {
			t.Errorf("answer %d: an append writes behind it in place", i)
		}
		for k := range answers[i] {
			answers[i][k] = 0x55555555
		}
		if !slices.Equal(a, longer) || !slices.Equal(b, other) {
			t.Fatalf("answer %d: an argument was changed", i)
		}
	}
	nat.Cmp(a[:5], b[:4])
	nat.Bits(a[:5])
	nat.Small(a[:5])
	if !slices.Equal(a, longer) || !slices.Equal(b, other) {
		t.Fatal("an argument was changed")
	}
}
