package fraction_test

import (
	"math"
	"math/big"
	"slices"
	"strconv"
	"strings"
	"testing"

	"primrose/api"
	"primrose/fraction"
	"primrose/nat"
	"primrose/whole"
)

const top = math.MaxUint32

// samples are fractions of many shapes: plain ones, those with leading zero
// limbs or with common divisors, and those whose Den is 0. They are the same in
// each run.
func samples() []api.Rat {
	nums := [][]uint32{nil, {0, 0}, {1}, {2, 0}, {6}, {12, 0, 0}, {top}, {0, 1}, {0, 6, 0}, {top, 1<<31 - 1}, {0, 0, 1 << 31}}
	dens := [][]uint32{nil, {0}, {0, 0, 0}, {1}, {1, 0}, {2}, {4, 0}, {6}, {9}, {top}, {0, 1}, {0, 9, 0}, {top, top, 0}}
	var all []api.Rat
	for _, num := range nums {
		for _, den := range dens {
			for _, neg := range []bool{false, true} {
				all = append(all, api.Rat{Num: api.Int{Neg: neg, Mag: num}, Den: den})
			}
		}
	}
	seed := uint64(1)
	for round := range 24 {
		common := noise(&seed, round%3+1)
		num, den := nat.Mul(common, noise(&seed, round%5+1)), nat.Mul(common, noise(&seed, round%4+1))
		all = append(all, api.Rat{Num: api.Int{Neg: round%2 == 1, Mag: num}, Den: den})
	}
	return all
}

// few are so many samples that triples of them can be gone through.
func few() []api.Rat {
	var some []api.Rat
	for i, x := range samples() {
		if i%6 == 1 {
			some = append(some, x)
		}
	}
	return some
}

// noise returns limbs of which some are extreme, as those lead to rare cases.
func noise(seed *uint64, length int) []uint32 {
	limbs := make([]uint32, length)
	for i := range limbs {
		*seed = *seed*6364136223846793005 + 1442695040888963407
		limbs[i] = uint32(*seed >> 32)
		switch *seed >> 29 % 8 {
		case 0:
			limbs[i] = 0
		case 1:
			limbs[i] = top
		}
	}
	return limbs
}

// zeros are the shapes of 0: with any Den if Num is 0, with any Num if Den is 0.
func zeros() []api.Rat {
	var all []api.Rat
	for _, zero := range [][]uint32{nil, {}, {0}, {0, 0, 0}} {
		for _, other := range [][]uint32{nil, {0, 0}, {1}, {7, 0}, {0, 3}} {
			for _, neg := range []bool{false, true} {
				all = append(all, api.Rat{Num: api.Int{Neg: neg, Mag: zero}, Den: other})
				all = append(all, api.Rat{Num: api.Int{Neg: neg, Mag: other}, Den: zero})
			}
		}
	}
	return all
}

func limbsToBig(a []uint32) *big.Int {
	z := new(big.Int)
	for i := len(a) - 1; i >= 0; i-- {
		z.Lsh(z, 32)
		z.Or(z, big.NewInt(int64(a[i])))
	}
	return z
}

func limbsFromBig(x *big.Int) []uint32 {
	var a []uint32
	mask := big.NewInt(top)
	for rest := new(big.Int).Abs(x); rest.Sign() > 0; rest.Rsh(rest, 32) {
		a = append(a, uint32(new(big.Int).And(rest, mask).Uint64()))
	}
	return a
}

func intToBig(a api.Int) *big.Int {
	z := limbsToBig(a.Mag)
	if a.Neg {
		z.Neg(z)
	}
	return z
}

func toBig(x api.Rat) *big.Rat {
	den := limbsToBig(x.Den)
	if den.Sign() == 0 {
		return new(big.Rat)
	}
	return new(big.Rat).SetFrac(intToBig(x.Num), den)
}

func fromBig(x *big.Rat) api.Rat {
	num := api.Int{Neg: x.Sign() < 0, Mag: limbsFromBig(x.Num())}
	return api.Rat{Num: num, Den: limbsFromBig(x.Denom())}
}

// of makes a fraction as it is given, plain or not.
func of(num, den int) api.Rat {
	return api.Rat{Num: whole.Of(num), Den: nat.Of(den)}
}

// same tells whether two fractions have the same form, not only the same value.
func same(x, y api.Rat) bool {
	return x.Num.Neg == y.Num.Neg && slices.Equal(x.Num.Mag, y.Num.Mag) && slices.Equal(x.Den, y.Den)
}

func isNone(x api.Rat) bool {
	return !x.Num.Neg && len(x.Num.Mag) == 0 && len(x.Den) == 0
}

// expect holds an answer against a fraction's one plain form.
func expect(t *testing.T, got api.Rat, want *big.Rat, what string, args ...api.Rat) {
	t.Helper()
	if !same(got, fromBig(want)) {
		t.Fatalf("%s of %v: %v, not %v", what, args, got, fromBig(want))
	}
}

func forPairs(check func(x, y api.Rat, a, b *big.Rat)) {
	all := samples()
	bigs := make([]*big.Rat, len(all))
	for i, x := range all {
		bigs[i] = toBig(x)
	}
	for i, x := range all {
		for k, y := range all {
			check(x, y, bigs[i], bigs[k])
		}
	}
}

func TestC1Plain(t *testing.T) {
	for _, x := range samples() {
		expect(t, fraction.Plain(x), toBig(x), "Plain", x)
		expect(t, fraction.Plain(fraction.Plain(x)), toBig(x), "Plain of Plain", x)
	}
	for _, x := range []struct{ from, to api.Rat }{
		{of(6, 4), of(3, 2)}, {of(-6, 4), of(-3, 2)}, {of(4, 2), of(2, 1)}, {of(-5, 5), of(-1, 1)}, {of(3, 7), of(3, 7)},
		{api.Rat{Num: api.Int{Neg: true, Mag: []uint32{6, 0}}, Den: []uint32{9, 0, 0}}, of(-2, 3)},
		{api.Rat{Num: api.Int{Mag: []uint32{5, 0}}, Den: []uint32{1, 0}}, of(5, 1)},
		{api.Rat{Num: api.Int{Mag: []uint32{0, 6}}, Den: []uint32{0, 4}}, of(3, 2)},
	} {
		if got := fraction.Plain(x.from); !same(got, x.to) {
			t.Errorf("Plain of %v: %v, not %v", x.from, got, x.to)
		}
	}
}

func TestC1PlainOfZero(t *testing.T) {
	for _, zero := range zeros() {
		got := fraction.Plain(zero)
		if got.Num.Neg || len(got.Num.Mag) != 0 || !slices.Equal(got.Den, []uint32{1}) {
			t.Errorf("Plain of %v: %v", zero, got)
		}
	}
}

// ints are those near the powers of 2, up to the greatest and the least int.
func ints() []int {
	all := []int{0, 5, -5, 12, -12, math.MaxInt, math.MaxInt - 1, math.MinInt, math.MinInt + 1}
	for n := range 63 {
		for d := -1; d <= 1; d++ {
			all = append(all, 1<<n+d, -1<<n+d)
		}
	}
	return all
}

func TestC2Of(t *testing.T) {
	for _, n := range ints() {
		expect(t, fraction.Of(n), new(big.Rat).SetInt64(int64(n)), "Of "+strconv.Itoa(n))
	}
	least := api.Rat{Num: api.Int{Neg: true, Mag: []uint32{0, 1 << 31}}, Den: []uint32{1}}
	if x := fraction.Of(math.MinInt); !same(x, least) {
		t.Errorf("Of the least int: %v", x)
	}
}

func TestC2Make(t *testing.T) {
	for _, x := range samples() {
		for _, y := range few() {
			a, b := x.Num, y.Num
			if whole.Sign(b) == 0 {
				continue
			}
			got, e := fraction.Make(a, b)
			if e != api.OK {
				t.Fatalf("Make of %v and %v: error %d", a, b, e)
			}
			expect(t, got, new(big.Rat).SetFrac(intToBig(a), intToBig(b)), "Make", api.Rat{Num: a}, api.Rat{Num: b})
		}
	}
}

func TestC2MakeOfSigns(t *testing.T) {
	for _, x := range []struct {
		num, den int
		want     api.Rat
	}{
		{6, -4, of(-3, 2)}, {-6, -4, of(3, 2)}, {-6, 4, of(-3, 2)}, {6, 4, of(3, 2)}, {6, -1, of(-6, 1)}, {-6, -1, of(6, 1)},
		{0, -4, of(0, 1)}, {0, 4, of(0, 1)}, {4, -4, of(-1, 1)}, {1, -3, of(-1, 3)},
	} {
		if got, e := fraction.Make(whole.Of(x.num), whole.Of(x.den)); e != api.OK || !same(got, x.want) {
			t.Errorf("Make of %d and %d: %v, error %d", x.num, x.den, got, e)
		}
	}
	least, e := fraction.Make(whole.Of(math.MinInt), whole.Of(math.MinInt))
	if e != api.OK || !same(least, of(1, 1)) {
		t.Errorf("Make of the least int, twice: %v, error %d", least, e)
	}
	zero := api.Int{Neg: true, Mag: []uint32{0, 0}}
	if got, e := fraction.Make(zero, whole.Of(-3)); e != api.OK || !same(got, of(0, 1)) {
		t.Errorf("Make of -0 and -3: %v, error %d", got, e)
	}
}

func TestC2MakeByZero(t *testing.T) {
	for _, den := range [][]uint32{nil, {}, {0}, {0, 0, 0}} {
		for _, neg := range []bool{false, true} {
			for _, x := range samples() {
				if got, e := fraction.Make(x.Num, api.Int{Neg: neg, Mag: den}); e != api.ErrZero || !isNone(got) {
					t.Fatalf("Make of %v by 0: %v, error %d", x.Num, got, e)
				}
			}
		}
	}
}

func TestC3Sign(t *testing.T) {
	for _, x := range samples() {
		if s := fraction.Sign(x); s != toBig(x).Sign() {
			t.Errorf("Sign of %v: %d", x, s)
		}
	}
	for _, zero := range zeros() {
		if s := fraction.Sign(zero); s != 0 {
			t.Errorf("Sign of %v: %d", zero, s)
		}
	}
}

func TestC3Cmp(t *testing.T) {
	forPairs(func(x, y api.Rat, a, b *big.Rat) {
		if c := fraction.Cmp(x, y); c != a.Cmp(b) {
			t.Fatalf("Cmp of %v and %v: %d", x, y, c)
		}
	})
	for _, zero := range zeros() {
		for _, other := range zeros() {
			if c := fraction.Cmp(zero, other); c != 0 {
				t.Fatalf("Cmp of %v and %v: %d", zero, other, c)
			}
		}
		for _, n := range []int{-3, -1, 1, 3} {
			if c := fraction.Cmp(zero, of(n, 2)); c != toBig(of(-n, 1)).Sign() {
				t.Fatalf("Cmp of %v and %d/2: %d", zero, n, c)
			}
		}
	}
}

func TestC4Neg(t *testing.T) {
	for _, x := range samples() {
		expect(t, fraction.Neg(x), new(big.Rat).Neg(toBig(x)), "Neg", x)
	}
	for _, zero := range zeros() {
		expect(t, fraction.Neg(zero), new(big.Rat), "Neg", zero)
	}
}

func TestC4AddSubMul(t *testing.T) {
	forPairs(func(x, y api.Rat, a, b *big.Rat) {
		expect(t, fraction.Add(x, y), new(big.Rat).Add(a, b), "Add", x, y)
		expect(t, fraction.Sub(x, y), new(big.Rat).Sub(a, b), "Sub", x, y)
		expect(t, fraction.Mul(x, y), new(big.Rat).Mul(a, b), "Mul", x, y)
	})
}

// Among fractions with small parts, all ways occur in which the denominators'
// common divisor meets the sum's numerator.
func TestC4SmallFractions(t *testing.T) {
	for d := 0; d <= 12; d++ {
		for e := 1; e <= 12; e++ {
			for n := -12; n <= 12; n++ {
				for m := -3; m <= 3; m++ {
					x, y := of(n, d), of(m, e)
					a, b := toBig(x), toBig(y)
					expect(t, fraction.Add(x, y), new(big.Rat).Add(a, b), "Add", x, y)
					expect(t, fraction.Sub(x, y), new(big.Rat).Sub(a, b), "Sub", x, y)
					expect(t, fraction.Mul(x, y), new(big.Rat).Mul(a, b), "Mul", x, y)
				}
			}
		}
	}
}

func TestC4Zeros(t *testing.T) {
	x := api.Rat{Num: api.Int{Neg: true, Mag: []uint32{6, 0}}, Den: []uint32{4, 0}}
	for _, zero := range zeros() {
		expect(t, fraction.Add(x, zero), big.NewRat(-3, 2), "Add", x, zero)
		expect(t, fraction.Add(zero, x), big.NewRat(-3, 2), "Add", zero, x)
		expect(t, fraction.Sub(x, zero), big.NewRat(-3, 2), "Sub", x, zero)
		expect(t, fraction.Sub(zero, x), big.NewRat(3, 2), "Sub", zero, x)
		expect(t, fraction.Mul(x, zero), new(big.Rat), "Mul", x, zero)
		expect(t, fraction.Mul(zero, x), new(big.Rat), "Mul", zero, x)
		expect(t, fraction.Add(zero, zero), new(big.Rat), "Add", zero)
		expect(t, fraction.Sub(zero, zero), new(big.Rat), "Sub", zero)
		expect(t, fraction.Mul(zero, zero), new(big.Rat), "Mul", zero)
	}
}

// A sum of many fractions with different denominators has long parts.
func TestC4LongSums(t *testing.T) {
	sum, want := fraction.Of(0), new(big.Rat)
	for n := 1; n <= 200; n++ {
		x := of(1-n%2*2, n*n)
		sum = fraction.Add(sum, x)
		want.Add(want, toBig(x))
		expect(t, sum, want, "the sum's Plain")
	}
	for n := 1; n <= 200; n++ {
		sum = fraction.Sub(sum, of(1-n%2*2, n*n))
	}
	if !same(sum, of(0, 1)) {
		t.Errorf("nothing is left: %v", sum)
	}
}

func TestC5Div(t *testing.T) {
	forPairs(func(x, y api.Rat, a, b *big.Rat) {
		if b.Sign() == 0 {
			return
		}
		got, e := fraction.Div(x, y)
		if e != api.OK {
			t.Fatalf("Div of %v and %v: error %d", x, y, e)
		}
		expect(t, got, new(big.Rat).Quo(a, b), "Div", x, y)
	})
	for _, x := range []struct{ x, y, want api.Rat }{
		{of(1, 2), of(-1, 3), of(-3, 2)}, {of(-1, 2), of(-1, 3), of(3, 2)}, {of(-1, 2), of(1, 3), of(-3, 2)},
		{of(6, 4), of(9, 6), of(1, 1)}, {of(0, 5), of(-2, 3), of(0, 1)}, {of(5, 0), of(-2, 3), of(0, 1)}, {of(1, 1), of(-2, 1), of(-1, 2)},
	} {
		if got, e := fraction.Div(x.x, x.y); e != api.OK || !same(got, x.want) {
			t.Errorf("Div of %v and %v: %v, error %d", x.x, x.y, got, e)
		}
	}
}

func TestC5DivByZero(t *testing.T) {
	for _, zero := range zeros() {
		for _, x := range append(samples(), zeros()...) {
			if got, e := fraction.Div(x, zero); e != api.ErrZero || !isNone(got) {
				t.Fatalf("Div of %v and %v: %v, error %d", x, zero, got, e)
			}
		}
		for _, y := range []api.Rat{of(-2, 3), of(7, 1)} {
			if got, e := fraction.Div(zero, y); e != api.OK || !same(got, of(0, 1)) {
				t.Errorf("Div of %v and %v: %v, error %d", zero, y, got, e)
			}
		}
	}
}

func TestC6Text(t *testing.T) {
	for _, x := range samples() {
		if s := fraction.Text(x); s != toBig(x).RatString() {
			t.Errorf("Text of %v: %s", x, s)
		}
	}
	for _, x := range []struct {
		x    api.Rat
		want string
	}{
		{fraction.Of(-2), "-2"}, {of(6, 4), "3/2"}, {of(-6, 4), "-3/2"}, {of(6, 3), "2"}, {of(-6, 6), "-1"}, {of(1, 7), "1/7"},
		{of(0, 7), "0"}, {of(7, 0), "0"}, {fraction.Of(math.MinInt), "-9223372036854775808"},
		{api.Rat{Num: api.Int{Mag: []uint32{0, 1, 0}}, Den: []uint32{1, 0}}, "4294967296"},
		{api.Rat{Num: api.Int{Mag: []uint32{1, 0}}, Den: []uint32{0, 1, 0}}, "1/4294967296"},
	} {
		if s := fraction.Text(x.x); s != x.want {
			t.Errorf("Text of %v: %s, not %s", x.x, s, x.want)
		}
	}
	for _, zero := range zeros() {
		if s := fraction.Text(zero); s != "0" {
			t.Errorf("Text of %v: %s", zero, s)
		}
	}
}

// A text may be longer than those that Parse accepts.
func TestC6TextOfManyDigits(t *testing.T) {
	long, _ := nat.Shift([]uint32{1}, 1<<16)
	digits := limbsToBig(long).String()
	if s := fraction.Text(api.Rat{Num: whole.Of(-1), Den: long}); s != "-1/"+digits {
		t.Errorf("Text of -1/2^(2^16): %d bytes", len(s))
	}
	if s := fraction.Text(api.Rat{Num: api.Int{Neg: true, Mag: long}, Den: nat.Of(3)}); s != "-"+digits+"/3" {
		t.Errorf("Text of -2^(2^16)/3: %d bytes", len(s))
	}
}

func TestC6Parse(t *testing.T) {
	most := strings.Repeat("9", 10000)
	nums := []string{"0", "1", "-1", "2", "-12", "6", "4294967296", "-18446744073709551615", most, "-" + most}
	dens := []string{"1", "2", "4", "9", "10", "4294967296", "6442450944", most, "1" + strings.Repeat("0", 9999)}
	for _, num := range nums {
		texts := []string{num}
		for _, den := range dens {
			texts = append(texts, num+"/"+den)
		}
		for _, s := range texts {
			x, e := fraction.Parse(s)
			if e != api.OK {
				t.Fatalf("Parse of %.20q, %d bytes: error %d", s, len(s), e)
			}
			want, _ := new(big.Rat).SetString(s)
			expect(t, x, want, "Parse")
		}
	}
	for s, want := range map[string]api.Rat{"6/4": of(3, 2), "-6/4": of(-3, 2), "0/5": of(0, 1), "6/3": of(2, 1), "-7": of(-7, 1), "0": of(0, 1)} {
		if x, e := fraction.Parse(s); e != api.OK || !same(x, want) {
			t.Errorf("Parse of %q: %v, error %d", s, x, e)
		}
	}
}

// expectError holds all that Parse answers against an error.
func expectError(t *testing.T, s string, want api.Errno) {
	t.Helper()
	if x, e := fraction.Parse(s); e != want || !isNone(x) {
		t.Errorf("Parse of %.20q, %d bytes: %v, error %d, not %d", s, len(s), x, e, want)
	}
}

func TestC6ParseOfNoText(t *testing.T) {
	most := strings.Repeat("1", 10000)
	for _, s := range []string{
		"", "/", "//", "1/", "/1", "-/1", "1//", "1//2", "/1/2", "1/2/3", "1/2/", "1/-2", "-1/-2", "1/+2", "+1", "+1/2", "-0", "-0/1", "-0/0",
		"--1/2", "-", "01", "01/2", "1/01", "1/00", "1/2 ", " 1/2", "1 /2", "1/ 2", "1/2\n", "x", "x/2", "1/x", "1/2x", "x/0", "/0", "-0/x",
		"1.5", "1e3", "1:2", "1\\2", "1\u22152", "\u0661/2", "1/\u0662", "\xff/1", "1/\xff", "1\x00/2", "1/2\x00",
		most + "/", "/" + most, most + "/-" + most, most + "/0" + most, "0" + most + "/" + most, most + "x/0", "1/" + most + "x",
	} {
		expectError(t, s, api.ErrText)
	}
}

func TestC6ParseOfTooManyDigits(t *testing.T) {
	for _, length := range []int{10001, 20000, 100000} {
		long := strings.Repeat("1", length)
		for _, s := range []string{
			long, "-" + long, long + "/2", "-" + long + "/2", "1/" + long, "-1/" + long, "0/" + long, long + "/" + long,
			long + "/", long + "/0", long + "/x", long + "/2/3", "-" + long + "/-1", // the text before the slash comes first
		} {
			expectError(t, s, api.ErrLong)
		}
		for _, s := range []string{"x/" + long, "/" + long, "-0/" + long, "1/-" + long, "1/" + long + "/2", "1/0" + long, "+" + long} {
			expectError(t, s, api.ErrText)
		}
	}
}

func TestC6ParseByZero(t *testing.T) {
	for _, s := range []string{"1/0", "0/0", "-1/0", strings.Repeat("1", 10000) + "/0"} {
		expectError(t, s, api.ErrZero)
	}
}

func TestC7ParseUndoesText(t *testing.T) {
	for _, x := range append(samples(), zeros()...) {
		if back, e := fraction.Parse(fraction.Text(x)); e != api.OK || !same(back, fraction.Plain(x)) {
			t.Errorf("%v: %v, error %d", x, back, e)
		}
	}
	for num := -60; num <= 60; num++ {
		for den := 1; den <= 60; den++ {
			x := of(num, den)
			if back, e := fraction.Parse(fraction.Text(x)); e != api.OK || !same(back, fraction.Plain(x)) {
				t.Errorf("%d/%d: %v, error %d", num, den, back, e)
			}
		}
	}
}

func TestC7Field(t *testing.T) {
	all := few()
	zero, one := fraction.Of(0), fraction.Of(1)
	for _, x := range all {
		if !same(fraction.Add(x, fraction.Neg(x)), zero) || !same(fraction.Add(x, zero), fraction.Plain(x)) || !same(fraction.Mul(x, one), fraction.Plain(x)) {
			t.Fatalf("the negative of %v, or its sum with 0, or its product with 1", x)
		}
		inverse, e := fraction.Div(one, x)
		if (e == api.OK) == (fraction.Sign(x) == 0) || e == api.OK && !same(fraction.Mul(x, inverse), one) {
			t.Fatalf("the inverse of %v: %v, error %d", x, inverse, e)
		}
		for _, y := range all {
			if !same(fraction.Add(x, y), fraction.Add(y, x)) || !same(fraction.Mul(x, y), fraction.Mul(y, x)) {
				t.Fatalf("%v and %v don't commute", x, y)
			}
			for _, z := range all {
				expectField(t, x, y, z)
			}
		}
	}
}

func expectField(t *testing.T, x, y, z api.Rat) {
	t.Helper()
	if !same(fraction.Add(fraction.Add(x, y), z), fraction.Add(x, fraction.Add(y, z))) {
		t.Fatalf("sums of %v, %v, %v", x, y, z)
	}
	if !same(fraction.Mul(fraction.Mul(x, y), z), fraction.Mul(x, fraction.Mul(y, z))) {
		t.Fatalf("products of %v, %v, %v", x, y, z)
	}
	if !same(fraction.Mul(x, fraction.Add(y, z)), fraction.Add(fraction.Mul(x, y), fraction.Mul(x, z))) {
		t.Fatalf("%v times %v + %v", x, y, z)
	}
}

func TestC7Order(t *testing.T) {
	all := few()
	for _, x := range all {
		for _, y := range all {
			order := fraction.Cmp(x, y)
			if fraction.Cmp(y, x) != -order || fraction.Sign(fraction.Sub(x, y)) != order {
				t.Fatalf("the order of %v and %v", x, y)
			}
			if (order == 0) != same(fraction.Plain(x), fraction.Plain(y)) {
				t.Fatalf("the order of %v and %v", x, y)
			}
			for _, z := range all {
				if fraction.Cmp(fraction.Add(x, z), fraction.Add(y, z)) != order {
					t.Fatalf("the order of %v and %v, both plus %v", x, y, z)
				}
				if fraction.Cmp(fraction.Mul(x, z), fraction.Mul(y, z)) != order*fraction.Sign(z) {
					t.Fatalf("the order of %v and %v, both times %v", x, y, z)
				}
				if order <= 0 && fraction.Cmp(y, z) <= 0 && fraction.Cmp(x, z) > 0 {
					t.Fatalf("the order of %v, %v and %v", x, y, z)
				}
			}
		}
	}
}

// allAnswers are the fractions that the calls answer for x and y.
func allAnswers(x, y api.Rat) []api.Rat {
	made, _ := fraction.Make(x.Num, y.Num)
	again, _ := fraction.Make(x.Num, whole.Of(-1))
	quotient, _ := fraction.Div(x, y)
	unchanged, _ := fraction.Div(x, fraction.Of(1))
	parsed, _ := fraction.Parse(fraction.Text(x))
	zero := api.Rat{}
	return []api.Rat{
		fraction.Plain(x), fraction.Plain(y), made, again, fraction.Neg(x), fraction.Neg(y), fraction.Add(x, y), fraction.Add(x, x),
		fraction.Add(x, zero), fraction.Add(zero, y), fraction.Sub(x, y), fraction.Sub(x, x), fraction.Sub(x, zero), fraction.Sub(zero, y),
		fraction.Mul(x, y), fraction.Mul(x, zero), fraction.Mul(x, fraction.Of(1)), quotient, unchanged, parsed, fraction.Of(1), fraction.Of(math.MinInt),
	}
}

// Arguments keep their limbs, and so does the memory behind them (R3); each
// list of an answer has memory of its own; what is done to it changes no other
// list and no later answer (R4).
func TestMemory(t *testing.T) {
	for _, den := range [][]uint32{{0, 1 << 30, 9, 0, 0, 66}, {1, 0, 0, 0, 0, 66}, {0, 0, 0, 0, 0, 66}, {15, 0, 0, 0, 0, 66}} {
		expectOwnMemory(t, den, false)
		expectOwnMemory(t, den, true)
	}
}

func expectOwnMemory(t *testing.T, den []uint32, neg bool) {
	t.Helper()
	lists := [][]uint32{{0xabcdef00, 3, 1 << 31, 0, 0, 77}, den, {9, 0xfffffff0, 0, 0, 0, 55}, {30, 0, 0, 0, 0, 44}}
	var kept [][]uint32
	for _, list := range lists {
		kept = append(kept, slices.Clone(list))
	}
	intact := func() bool {
		return slices.EqualFunc(lists, kept, slices.Equal[[]uint32])
	}
	x := api.Rat{Num: api.Int{Neg: neg, Mag: lists[0][:5]}, Den: lists[1][:5]}
	y := api.Rat{Num: api.Int{Neg: !neg, Mag: lists[2][:4]}, Den: lists[3][:4]}
	answers := allAnswers(x, y)
	for i, want := range allAnswers(x, y) {
		if !same(answers[i], want) {
			t.Errorf("answer %d was changed through another one", i)
		}
		overwrite(answers[i].Num.Mag)
		if !slices.Equal(answers[i].Den, want.Den) {
			t.Errorf("answer %d: its lists share memory", i)
		}
		overwrite(answers[i].Den)
		if !intact() {
			t.Fatalf("answer %d: an argument was changed", i)
		}
	}
	fraction.Sign(x)
	fraction.Cmp(x, y)
	if !intact() {
		t.Fatal("an argument was changed")
	}
}

// overwrite writes into a list, and behind it where an append would.
func overwrite(list []uint32) {
	for i := range list {
		list[i] = 0x55555555
	}
	_ = append(list, 0x55555555)
}
