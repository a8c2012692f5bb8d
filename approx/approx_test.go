package approx_test

import (
	"encoding/binary"
	"math"
	"math/big"
	"slices"
	"testing"

	"primrose/api"
	"primrose/approx"
	"primrose/fraction"
	"primrose/nat"
)

const (
	most      = math.MaxFloat64
	tiny      = math.SmallestNonzeroFloat64
	normal    = 0x1p-1022               // the least normal float
	subnormal = 0x0.fffffffffffffp-1022 // the greatest subnormal one
	top       = math.MaxUint32
)

var (
	none  = math.NaN()
	inf   = math.Inf(1)
	minus = math.Copysign(0, -1)
)

func limbsToBig(a []uint32) *big.Int {
	var text []byte
	for _, limb := range slices.Backward(a) {
		text = binary.BigEndian.AppendUint32(text, limb)
	}
	return new(big.Int).SetBytes(text)
}

func limbsFromBig(x *big.Int) []uint32 {
	text := x.FillBytes(make([]byte, (x.BitLen()+31)/32*4))
	var a []uint32
	for end := len(text); end > 0; end -= 4 {
		a = append(a, binary.BigEndian.Uint32(text[end-4:end]))
	}
	return a
}

func toBig(x api.Rat) *big.Rat {
	num, den := limbsToBig(x.Num.Mag), limbsToBig(x.Den)
	if den.Sign() == 0 {
		return new(big.Rat)
	}
	if x.Num.Neg {
		num.Neg(num)
	}
	return new(big.Rat).SetFrac(num, den)
}

func fromBig(x *big.Rat) api.Rat {
	num := api.Int{Neg: x.Sign() < 0, Mag: limbsFromBig(x.Num())}
	return api.Rat{Num: num, Den: limbsFromBig(x.Denom())}
}

// power returns n times 2^e.
func power(n int64, e int) *big.Rat {
	x := new(big.Rat).SetInt64(n)
	long := new(big.Int).Lsh(big.NewInt(1), uint(max(e, -e)))
	if e < 0 {
		return x.Quo(x, new(big.Rat).SetInt(long))
	}
	return x.Mul(x, new(big.Rat).SetInt(long))
}

func exact(f float64) *big.Rat {
	return new(big.Rat).SetFloat64(f)
}

func middle(a, b float64) *big.Rat {
	sum := new(big.Rat).Add(exact(a), exact(b))
	return sum.Mul(sum, big.NewRat(1, 2))
}

// same tells two zeros apart, but not one NaN from another.
func same(f, g float64) bool {
	return math.Float64bits(f) == math.Float64bits(g) || math.IsNaN(f) && math.IsNaN(g)
}

func isNone(x api.Rat) bool {
	return !x.Num.Neg && len(x.Num.Mag) == 0 && len(x.Den) == 0
}

func sameRat(x, y api.Rat) bool {
	return x.Num.Neg == y.Num.Neg && slices.Equal(x.Num.Mag, y.Num.Mag) && slices.Equal(x.Den, y.Den)
}

// shape is a few words about a number, which may be long.
func shape(x *big.Rat) string {
	if len(x.Num().Bits())+len(x.Denom().Bits()) < 40 {
		return x.RatString()
	}
	f, _ := new(big.Float).SetRat(x).MarshalText()
	return "about " + string(f)
}

// noise returns 64 digits; they are the same in each run.
func noise(seed *uint64) uint64 {
	*seed = *seed*6364136223846793005 + 1442695040888963407
	high := *seed >> 32
	*seed = *seed*6364136223846793005 + 1442695040888963407
	return high<<32 | *seed>>32
}

// rising are finite floats of all kinds that are not negative, the negative
// zero aside, in their order: with the neighbours of each power of 2 that is
// named.
func rising() []float64 {
	all := []float64{0, tiny, 2 * tiny, 3 * tiny, 4 * tiny, 5 * tiny, 1e-310, 0.1, 1.0 / 3, 0.7, 3, 10, 1e22, 1e23, 123456789, 1e300, most}
	for _, e := range []int{-1073, -1050, -1023, -1022, -1021, -1020, -970, -54, -53, -52, -2, -1, 0, 1, 2, 31, 32, 52, 53, 54, 63, 64, 970, 971, 1022, 1023} {
		f := math.Ldexp(1, e)
		all = append(all, math.Nextafter(f, 0), f, math.Nextafter(f, inf), math.Nextafter(math.Nextafter(f, inf), inf))
	}
	all = append(all, math.Nextafter(most, 0), 0x1.8p1023, subnormal, normal, math.Nextafter(normal, 1), 0x0.8p-1022)
	seed := uint64(4)
	for range 60 {
		if f := math.Float64frombits(noise(&seed) &^ (1 << 63)); !math.IsNaN(f) && !math.IsInf(f, 0) {
			all = append(all, f)
		}
		all = append(all, math.Float64frombits(noise(&seed)>>12)) // a subnormal one
	}
	slices.Sort(all)
	return slices.Compact(all)
}

// finite are the floats of rising, with their negatives, and the negative zero.
func finite() []float64 {
	var all []float64
	for _, f := range rising() {
		all = append(all, f, -f)
	}
	return all
}

// nans are NaN of both signs and several payloads.
func nans() []float64 {
	var all []float64
	for _, bits := range []uint64{0x7ff8000000000000, 0x7ff8000000000001, 0xfff8000000000000, 0x7ff0000000000001, 0xffffffffffffffff, 0xfff0000000000001} {
		all = append(all, math.Float64frombits(bits))
	}
	return append(all, none)
}

// zeros are the shapes of 0: with any Den if Num is 0, with any Num if Den is 0.
func zeros() []api.Rat {
	var all []api.Rat
	long := append(make([]uint32, 99), 5)
	for _, zero := range [][]uint32{nil, {}, {0}, {0, 0, 0}, make([]uint32, 100)} {
		for _, other := range [][]uint32{nil, {0, 0}, {1}, {7, 0}, {0, 3}, long} {
			for _, neg := range []bool{false, true} {
				all = append(all, api.Rat{Num: api.Int{Neg: neg, Mag: zero}, Den: other})
				all = append(all, api.Rat{Num: api.Int{Neg: neg, Mag: other}, Den: zero})
			}
		}
	}
	return all
}

// unplain returns the same fraction with a common divisor and with leading zero
// limbs.
func unplain(x api.Rat) api.Rat {
	common := []uint32{0, 6, top}
	num, den := nat.Mul(x.Num.Mag, common), nat.Mul(x.Den, common)
	return api.Rat{Num: api.Int{Neg: x.Num.Neg, Mag: append(num, 0, 0)}, Den: append(den, 0)}
}

// expectTo holds To of x, of its negative, and of shapes of both that are not
// plain against a float that is given for x.
func expectTo(t *testing.T, x *big.Rat, want float64) {
	t.Helper()
	r, opposite := fromBig(x), fromBig(new(big.Rat).Neg(x))
	for _, shaped := range []api.Rat{r, unplain(r)} {
		if got := approx.To(shaped); !same(got, want) {
			t.Fatalf("To of %s: %x, not %x", shape(x), got, want)
		}
	}
	if x.Sign() != 0 {
		want = -want
	}
	for _, shaped := range []api.Rat{opposite, unplain(opposite)} {
		if got := approx.To(shaped); !same(got, want) {
			t.Fatalf("To of the negative of %s: %x, not %x", shape(x), got, want)
		}
	}
}

// nearest is what the library makes of a fraction.
func nearest(x *big.Rat) float64 {
	f, _ := x.Float64()
	return f
}

func TestD1Ordinary(t *testing.T) {
	for num := range int64(60) {
		for den := int64(1); den < 60; den++ {
			expectTo(t, big.NewRat(num, den), float64(num)/float64(den))
		}
	}
	for _, x := range []struct {
		text string
		want float64
	}{
		{"0", 0}, {"1/3", 6004799503160661 * 0x1p-54}, {"-1/3", -6004799503160661 * 0x1p-54}, {"1/10", 0.1}, {"2/3", 2.0 / 3}, {"-7", -7},
		{"9007199254740992", 1 << 53}, {"9007199254740993", 1 << 53}, {"9007199254740995", 1<<53 + 4}, {"9007199254740994", 1<<53 + 2},
		{"18014398509481985", 1 << 54}, {"18014398509481986", 1 << 54}, {"18014398509481987", 1<<54 + 4}, {"18014398509481990", 1<<54 + 8},
		{"9223372036854775807", 1 << 63}, {"-9223372036854775808", -1 << 63}, {"100000000000000000000000", 1e23}, {"1/100000000000000000000000", 1e-23},
	} {
		r, _ := fraction.Parse(x.text)
		if got := approx.To(r); !same(got, x.want) {
			t.Errorf("To of %s: %x, not %x", x.text, got, x.want)
		}
	}
}

func TestD1Random(t *testing.T) {
	seed := uint64(1)
	for round := range 4000 {
		num := new(big.Int).SetUint64(noise(&seed) >> (round % 64))
		den := new(big.Int).SetUint64(noise(&seed)>>(round/64%64) | 1)
		switch round % 3 {
		case 1:
			num.Lsh(num, uint(noise(&seed)%1100))
		case 2:
			den.Lsh(den, uint(noise(&seed)%1200))
		}
		x := new(big.Rat).SetFrac(num, den)
		expectTo(t, x, nearest(x))
	}
}

// between are the floats that one neighbour follows, up to the greatest.
func between() []float64 {
	all := rising()
	return all[:len(all)-1]
}

// A fraction half way between neighbours becomes the even one; what is next to
// the half way, however near, becomes the neighbour on its side.
func TestD1HalfWay(t *testing.T) {
	for _, low := range between() {
		high := math.Nextafter(low, inf)
		even := low
		if math.Float64bits(low)%2 == 1 {
			even = high
		}
		half := middle(low, high)
		expectTo(t, half, even)
		for _, e := range []int{-1076, -1077, -1100, -1200, -3000} {
			expectTo(t, new(big.Rat).Sub(half, power(1, e)), low)
			expectTo(t, new(big.Rat).Add(half, power(1, e)), high)
		}
		third := new(big.Rat).Mul(new(big.Rat).Sub(exact(high), exact(low)), big.NewRat(1, 3))
		expectTo(t, new(big.Rat).Add(exact(low), third), low)
		expectTo(t, new(big.Rat).Sub(exact(high), third), high)
	}
}

func TestD1HalfWayAtIntegers(t *testing.T) {
	const first = 1 << 52
	for _, e := range []int{-1074, -1073, -1000, -60, -1, 0, 1, 11, 900, 970, 971} {
		for _, integer := range []int64{first, first + 1, first + 2, first + 3, 3 << 51, 3<<51 + 1, 1<<53 - 4, 1<<53 - 3, 1<<53 - 2} {
			even := integer + integer%2
			expectTo(t, power(2*integer+1, e-1), math.Ldexp(float64(even), e))
			expectTo(t, power(4*integer+1, e-2), math.Ldexp(float64(integer), e))
			expectTo(t, power(4*integer+3, e-2), math.Ldexp(float64(integer+1), e))
		}
	}
	// 2^53 - 1 is odd: half way beyond it stands the next power of 2.
	for _, e := range []int{-1074, -1000, 0, 900, 970} {
		expectTo(t, power(1<<54-1, e-1), math.Ldexp(1, e+53))
	}
}

func TestD1NearZero(t *testing.T) {
	for _, x := range []struct {
		n    int64
		e    int
		want float64
	}{
		{1, -1074, tiny}, {1, -1075, 0}, {3, -1075, 2 * tiny}, {5, -1075, 2 * tiny}, {7, -1075, 4 * tiny}, {3, -1076, tiny}, {1, -1076, 0},
		{5, -1076, tiny}, {7, -1076, 2 * tiny}, {9, -1077, tiny}, {7, -1077, tiny}, {5, -1077, tiny}, {3, -1077, 0}, {1, -1080, 0},
		{1<<52 + 1, -1127, tiny}, {1<<52 - 1, -1127, 0}, {1 << 52, -1127, 0}, {1<<62 - 1, -1137, 0}, {1<<62 + 1, -1137, tiny},
		{1, -2000, 0}, {1, -1 << 16, 0}, {1<<53 + 1, -1 << 20, 0}, {1, -1<<20 - 1, 0}, {3, -1<<20 - 1, 0}, {1, -1<<20 - 1130, 0}, {1, -1 << 22, 0},
	} {
		expectTo(t, power(x.n, x.e), x.want)
	}
	least := power(1, -1075)
	for _, e := range []int{-1076, -1128, -1129, -1200, -1 << 15} {
		expectTo(t, new(big.Rat).Add(least, power(1, e)), tiny)
		expectTo(t, new(big.Rat).Sub(least, power(1, e)), 0)
	}
	for n := range int64(200) {
		x := power(n, -1078)
		expectTo(t, x, nearest(x))
	}
}

func TestD1SubnormalToNormal(t *testing.T) {
	edge := middle(subnormal, normal)
	expectTo(t, exact(subnormal), subnormal)
	expectTo(t, exact(normal), normal)
	expectTo(t, edge, normal)
	for _, e := range []int{-1076, -1080, -1500} {
		expectTo(t, new(big.Rat).Sub(edge, power(1, e)), subnormal)
		expectTo(t, new(big.Rat).Add(edge, power(1, e)), normal)
	}
	for n := int64(-40); n <= 40; n++ {
		x := power(1<<55+n, -1077)
		expectTo(t, x, nearest(x))
	}
}

func TestD1BeyondTheGreatest(t *testing.T) {
	half := power(1<<54-1, 970)
	expectTo(t, exact(most), most)
	expectTo(t, half, inf)
	for _, e := range []int{970, 969, 900, 0, -1074, -4000} {
		expectTo(t, new(big.Rat).Sub(half, power(1, e)), most)
		expectTo(t, new(big.Rat).Add(half, power(1, e)), inf)
	}
	for _, e := range []int{1024, 1025, 1026, 1100, 5000, 1 << 20, 1<<20 + 1, 1<<20 + 1100, 1 << 22} {
		expectTo(t, power(1, e), inf)
	}
	expectTo(t, new(big.Rat).Sub(power(1, 1024), power(1, -100)), inf)
	expectTo(t, new(big.Rat).Mul(power(1, 1024), big.NewRat(1<<40+1, 1<<40)), inf)
	expectTo(t, new(big.Rat).Mul(power(1, 1025), big.NewRat(1, 3)), 0x1p1023*(4.0/3))
	expectTo(t, power(5, 1023), inf)
	expectTo(t, power(3, 1022), 0x1.8p1023)
	expectTo(t, power(3, 1023), inf)
}

// Numerator and denominator may have more digits than a number can be shifted
// by, with an ordinary quotient.
func TestD1LongParts(t *testing.T) {
	long := new(big.Int).Lsh(big.NewInt(1), 1<<21)
	long.Add(long, big.NewInt(12345))
	for _, f := range []float64{1, 3, 0.1, 1.0 / 3, tiny, 5 * tiny, subnormal, normal, most, 0x1p1000} {
		x := exact(f)
		num, den := new(big.Int).Mul(x.Num(), long), new(big.Int).Mul(x.Denom(), long)
		for _, neg := range []bool{false, true} {
			want := f
			if neg {
				want = -f
			}
			r := api.Rat{Num: api.Int{Neg: neg, Mag: limbsFromBig(num)}, Den: limbsFromBig(den)}
			if got := approx.To(r); !same(got, want) {
				t.Errorf("To of a long form of %x: %x", want, got)
			}
		}
	}
}

func TestD1NotPlain(t *testing.T) {
	for _, x := range []struct {
		neg      bool
		num, den []uint32
		want     float64
	}{
		{false, []uint32{6, 0, 0}, []uint32{4, 0}, 1.5}, {true, []uint32{6, 0}, []uint32{4, 0, 0, 0}, -1.5}, {false, []uint32{9}, []uint32{9}, 1},
		{true, []uint32{0, 6, 0}, []uint32{0, 9}, -2.0 / 3}, {false, append([]uint32{3}, make([]uint32, 99)...), []uint32{1}, 3},
		{false, []uint32{3}, append([]uint32{4}, make([]uint32, 99)...), 0.75}, {false, []uint32{top, top}, []uint32{top, top, 0}, 1},
	} {
		r := api.Rat{Num: api.Int{Neg: x.neg, Mag: x.num}, Den: x.den}
		if got := approx.To(r); !same(got, x.want) {
			t.Errorf("To of %v: %x, not %x", r, got, x.want)
		}
	}
	for _, zero := range zeros() {
		if got := approx.To(zero); !same(got, 0) {
			t.Errorf("To of %v: %x, signbit %t", zero, got, math.Signbit(got))
		}
	}
}

func TestD2From(t *testing.T) {
	for _, f := range finite() {
		x, e := approx.From(f)
		if want := fromBig(exact(f)); e != api.OK || !sameRat(x, want) {
			t.Errorf("From of %x: %v, error %d, not %v", f, x, e, want)
		}
	}
	for _, x := range []struct {
		f    float64
		want string
	}{
		{0.1, "3602879701896397/36028797018963968"}, {-0.1, "-3602879701896397/36028797018963968"}, {0.5, "1/2"}, {-1.5, "-3/2"}, {6, "6"},
		{-1 << 63, "-9223372036854775808"}, {1 << 53, "9007199254740992"}, {1<<53 - 1, "9007199254740991"}, {1e22, "10000000000000000000000"},
	} {
		if got, e := approx.From(x.f); e != api.OK || fraction.Text(got) != x.want {
			t.Errorf("From of %g: %s, error %d, not %s", x.f, fraction.Text(got), e, x.want)
		}
	}
	for _, zero := range []float64{0, minus} {
		x, e := approx.From(zero)
		if e != api.OK || x.Num.Neg || len(x.Num.Mag) != 0 || !slices.Equal(x.Den, []uint32{1}) {
			t.Errorf("From of 0, signbit %t: %v, error %d", math.Signbit(zero), x, e)
		}
	}
}

func TestD2FromNoNumber(t *testing.T) {
	for _, f := range append(nans(), inf, -inf) {
		if x, e := approx.From(f); e != api.ErrFloat || !isNone(x) {
			t.Errorf("From of %g: %v, error %d", f, x, e)
		}
	}
}

// inOrder are floats of all kinds, each kind of equivalent ones in a list.
func inOrder() [][]float64 {
	all := [][]float64{nans(), {-inf}}
	up := rising()
	for k := range up {
		all = append(all, []float64{-up[len(up)-1-k]})
	}
	for _, f := range up {
		all = append(all, []float64{f})
	}
	return append(all, []float64{inf})
}

func TestD3Order(t *testing.T) {
	all := inOrder()
	for i, list := range all {
		for k, other := range all {
			want := 0
			if i < k {
				want = -1
			} else if i > k {
				want = 1
			}
			for _, a := range list {
				for _, b := range other {
					if got := approx.Order(a, b); got != want {
						t.Fatalf("Order of %x and %x: %d, not %d", a, b, got, want)
					}
				}
			}
		}
	}
}

func TestD3OrderOfEdges(t *testing.T) {
	for _, x := range []struct {
		a, b float64
		want int
	}{
		{minus, 0, -1}, {0, minus, 1}, {0, 0, 0}, {minus, minus, 0}, {none, none, 0}, {none, -inf, -1}, {-inf, none, 1}, {none, inf, -1},
		{none, 0, -1}, {minus, none, 1}, {none, -most, -1}, {-inf, -most, -1}, {inf, most, 1}, {inf, inf, 0}, {-inf, -inf, 0}, {-inf, inf, -1},
		{-tiny, minus, -1}, {-tiny, 0, -1}, {tiny, 0, 1}, {tiny, minus, 1}, {subnormal, normal, -1}, {-subnormal, -normal, 1},
	} {
		if got := approx.Order(x.a, x.b); got != x.want {
			t.Errorf("Order of %x and %x: %d, not %d", x.a, x.b, got, x.want)
		}
	}
}

func expectCmp(t *testing.T, x api.Rat, f float64, want int) {
	t.Helper()
	if c, ok := approx.Cmp(x, f); c != want || !ok {
		t.Fatalf("Cmp of %s and %x: %d, %t, not %d", shape(toBig(x)), f, c, ok, want)
	}
}

func TestD4Cmp(t *testing.T) {
	for _, f := range finite() {
		x := exact(f)
		expectCmp(t, fromBig(x), f, 0)
		expectCmp(t, unplain(fromBig(x)), f, 0)
		for _, e := range []int{-1, -1075, -4000} {
			less, more := new(big.Rat).Sub(x, power(1, e)), new(big.Rat).Add(x, power(1, e))
			expectCmp(t, fromBig(less), f, -1)
			expectCmp(t, fromBig(more), f, 1)
			expectCmp(t, unplain(fromBig(less)), f, -1)
			expectCmp(t, unplain(fromBig(more)), f, 1)
		}
		expectCmp(t, fromBig(power(1, 1024)), f, 1)
		expectCmp(t, fromBig(power(-1, 1024)), f, -1)
		for n := int64(-3); n <= 3; n++ {
			third := big.NewRat(n, 3)
			expectCmp(t, fromBig(third), f, third.Cmp(x))
		}
		for _, zero := range zeros() {
			expectCmp(t, zero, f, -x.Sign())
		}
	}
	tenth, _ := fraction.Parse("1/10")
	expectCmp(t, tenth, 0.1, -1)
	expectCmp(t, fraction.Neg(tenth), -0.1, 1)
}

func TestD4CmpOfNoNumber(t *testing.T) {
	all := zeros()
	for _, f := range finite() {
		all = append(all, fromBig(exact(f)), unplain(fromBig(exact(f))))
	}
	all = append(all, fromBig(power(1, 5000)), fromBig(power(-1, 5000)), fromBig(power(-1, 1024)))
	for _, x := range all {
		expectCmp(t, x, inf, -1)
		expectCmp(t, x, -inf, 1)
		for _, f := range nans() {
			if c, ok := approx.Cmp(x, f); c != 0 || ok {
				t.Fatalf("Cmp of %s and NaN: %d, %t", shape(toBig(x)), c, ok)
			}
		}
	}
}

func expectMid(t *testing.T, a, b, want float64) {
	t.Helper()
	if got := approx.Mid(a, b); !same(got, want) {
		t.Fatalf("Mid of %x and %x: %x, not %x", a, b, got, want)
	}
	if got := approx.Mid(b, a); !same(got, want) {
		t.Fatalf("Mid of %x and %x: %x, not %x", b, a, got, want)
	}
}

func TestD5MidOfNoNumber(t *testing.T) {
	for _, f := range append(finite(), inf, -inf) {
		for _, g := range nans() {
			expectMid(t, f, g, none)
		}
	}
	for _, f := range nans() {
		for _, g := range nans() {
			expectMid(t, f, g, none)
		}
	}
	for _, f := range finite() {
		expectMid(t, f, inf, inf)
		expectMid(t, f, -inf, -inf)
	}
	expectMid(t, inf, inf, inf)
	expectMid(t, -inf, -inf, -inf)
	expectMid(t, inf, -inf, none)
}

// Whichever NaN is met, the answer is one and the same (R4).
func TestD5OneNaN(t *testing.T) {
	want := math.Float64bits(approx.Mid(inf, -inf))
	for _, f := range nans() {
		for _, g := range append(nans(), 0, 1, inf) {
			if math.Float64bits(approx.Mid(f, g)) != want || math.Float64bits(approx.Mid(g, f)) != want {
				t.Fatalf("Mid of %x and %x", math.Float64bits(f), math.Float64bits(g))
			}
		}
	}
}

func TestD5MidOfZeros(t *testing.T) {
	expectMid(t, 0, 0, 0)
	expectMid(t, minus, 0, 0)
	expectMid(t, minus, minus, minus)
	for _, f := range finite() {
		expectMid(t, f, -f, 0)
		if f != 0 {
			expectMid(t, f, 0, nearest(middle(f, 0)))
			expectMid(t, f, minus, nearest(middle(f, 0)))
		}
	}
	expectMid(t, tiny, 0, 0)
	expectMid(t, -tiny, 0, minus)
	expectMid(t, -tiny, minus, minus)
	expectMid(t, tiny, minus, 0)
}

func TestD5Mid(t *testing.T) {
	all := finite()
	for _, a := range all {
		for _, b := range all {
			if a == 0 && b == 0 {
				continue
			}
			expectMid(t, a, b, nearest(middle(a, b)))
		}
	}
	for _, x := range []struct{ a, b, want float64 }{
		{1, 2, 1.5}, {-1, 2, 0.5}, {1, -1, 0}, {-3, -4, -3.5}, {most, most, most}, {-most, -most, -most}, {most, -most, 0},
		{most, 0x1p1023, 0x1.8p1023}, {0x1p1023, 0x1p1023, 0x1p1023}, {tiny, tiny, tiny}, {tiny, 2 * tiny, 2 * tiny},
		{tiny, 3 * tiny, 2 * tiny}, {2 * tiny, 3 * tiny, 2 * tiny}, {3 * tiny, 4 * tiny, 4 * tiny}, {-tiny, 2 * tiny, 0}, {tiny, -2 * tiny, minus},
		{subnormal, normal, normal}, {subnormal, -normal, minus}, {-subnormal, normal, 0}, {most, tiny, 0x1p1023 - 0x1p970}, {1, tiny, 0.5},
	} {
		expectMid(t, x.a, x.b, x.want)
	}
}

// The middle of neighbours is the even one.
func TestD5MidOfNeighbours(t *testing.T) {
	for _, low := range between() {
		high := math.Nextafter(low, inf)
		even := low
		if math.Float64bits(low)%2 == 1 {
			even = high
		}
		expectMid(t, low, high, even)
		expectMid(t, -low, -high, -even)
		expectMid(t, low, low, low)
		if further := math.Nextafter(high, inf); !math.IsInf(further, 0) {
			expectMid(t, low, further, nearest(middle(low, further)))
		}
	}
}

func TestD5MidIsTo(t *testing.T) {
	seed, two := uint64(9), fraction.Of(2)
	for round := range 6000 {
		a, b := noise(&seed), noise(&seed)
		if round%2 == 0 { // near each other, of one sign or two
			b = a ^ b>>(8+round%56) ^ b<<63
		}
		f, g := math.Float64frombits(a), math.Float64frombits(b)
		x, e := approx.From(f)
		y, d := approx.From(g)
		if e != api.OK || d != api.OK || f == 0 && g == 0 {
			continue
		}
		half, _ := fraction.Div(fraction.Add(x, y), two)
		expectMid(t, f, g, approx.To(half))
	}
}

func TestD6ToUndoesFrom(t *testing.T) {
	for _, f := range finite() {
		want := f
		if f == 0 {
			want = 0
		}
		if x, e := approx.From(f); e != api.OK || !same(approx.To(x), want) {
			t.Errorf("%x: %x, error %d", f, approx.To(x), e)
		}
	}
}

// fractions are many, of all sizes, with both neighbours of half ways.
func fractions() []*big.Rat {
	var all []*big.Rat
	for _, low := range between() {
		half := middle(low, math.Nextafter(low, inf))
		all = append(all, exact(low), half, new(big.Rat).Mul(half, big.NewRat(1<<60-1, 1<<60)), new(big.Rat).Mul(half, big.NewRat(1<<60+1, 1<<60)))
	}
	for n := range int64(30) {
		all = append(all, big.NewRat(n, 7), power(n, -1077), new(big.Rat).Sub(exact(most), power(n, 960)))
	}
	for i := range len(all) {
		all = append(all, new(big.Rat).Neg(all[i]))
	}
	return all
}

func TestD6NoFloatIsNearer(t *testing.T) {
	for _, x := range fractions() {
		f := approx.To(fromBig(x))
		if math.IsInf(f, 0) {
			t.Fatalf("To of %s is infinite", shape(x))
		}
		distance := func(g float64) *big.Rat {
			d := new(big.Rat).Sub(x, exact(g))
			return d.Abs(d)
		}
		for _, g := range []float64{math.Nextafter(f, inf), math.Nextafter(f, -inf)} {
			if math.IsInf(g, 0) {
				continue
			}
			switch c := distance(g).Cmp(distance(f)); {
			case c < 0:
				t.Fatalf("To of %s: %x, but %x is nearer", shape(x), f, g)
			case c == 0 && math.Float64bits(f)%2 == 1:
				t.Fatalf("To of %s: %x, not the even %x", shape(x), f, g)
			}
		}
	}
}

func TestD6ToPreservesTheOrder(t *testing.T) {
	all := append(fractions(), power(1, 1024), power(-1, 1024), power(1<<54-1, 970), power(-1<<54+1, 970), power(1, -5000), power(-1, -5000))
	slices.SortFunc(all, (*big.Rat).Cmp)
	last := -inf
	for _, x := range all {
		f := approx.To(fromBig(x))
		if approx.Order(last, f) > 0 {
			t.Fatalf("To of %s: %x, after %x", shape(x), f, last)
		}
		last = f
	}
}

// Arguments keep their limbs, and so does the memory behind them (R3); answers
// share no memory, and don't hang on earlier calls (R4).
func TestMemory(t *testing.T) {
	num, den := []uint32{0xabcdef00, 3, 1 << 31, 0, 0, 77}, []uint32{0, 1 << 30, 9, 0, 66}
	a, b := slices.Clone(num), slices.Clone(den)
	x := api.Rat{Num: api.Int{Neg: true, Mag: a[:5]}, Den: b[:4]}
	for _, y := range []api.Rat{x, {Num: api.Int{Mag: b[:4]}, Den: a[:5]}, {Num: api.Int{Mag: a[:5]}, Den: a[:1]}, {Num: api.Int{Mag: a[1:2]}, Den: b[:4]}} {
		first := approx.To(y)
		for _, f := range []float64{0.1, -most, tiny, 0, none, inf} {
			approx.Cmp(y, f)
		}
		if !same(approx.To(y), first) || !same(first, nearest(toBig(y))) {
			t.Errorf("To of %v: %x", y, first)
		}
		if !slices.Equal(a, num) || !slices.Equal(b, den) {
			t.Fatal("an argument was changed")
		}
	}
	for _, f := range finite() {
		y, _ := approx.From(f)
		again, _ := approx.From(f)
		overwrite(y.Num.Mag)
		if !slices.Equal(y.Den, again.Den) {
			t.Fatalf("From of %x: its lists share memory", f)
		}
		overwrite(y.Den)
		if third, _ := approx.From(f); !sameRat(again, third) || !sameRat(again, fromBig(exact(f))) {
			t.Fatalf("From of %x was changed through another answer", f)
		}
	}
}

// overwrite writes into a list, and behind it where an append would.
func overwrite(list []uint32) {
	for i := range list {
		list[i] = 0x55555555
	}
	_ = append(list, 0x55555555)
}
