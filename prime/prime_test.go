package prime_test

import (
	"math"
	"math/big"
	"slices"
	"testing"

	"primrose/api"
	"primrose/fraction"
	"primrose/nat"
	"primrose/prime"
	"primrose/whole"
)

const (
	greatest = 1<<31 - 1 // of the primes
	top      = math.MaxUint32
)

// primes are some of all sizes, with the two greatest ones.
func primes() []int {
	return []int{2, 3, 5, 7, 31, 257, 46337, 46349, 65537, 1000003, 1073741827, 2147483629, greatest}
}

// noPrimes are numbers that no call takes for a prime: those below 2, products,
// and those beyond the greatest prime. Among the last are primes of the
// integers, and numbers whose low 32 digits are a prime's.
func noPrimes() []int {
	return []int{
		0, 1, 4, 6, 9, 15, 25, 49, 341, 561, 46337 * 46339, 46339 * 46339, 1 << 30, greatest - 1,
		-1, -2, -3, -4, -7, -greatest, -greatest - 1, math.MinInt, math.MinInt + 1, math.MinInt + 2,
		1 << 31, 1<<31 + 11, 46349 * 46349, 1<<32 - 5, 1 << 32, 1<<32 + 2, 1<<32 + 3, 1<<32 + 7, 1<<33 + 2, 1<<61 - 1, -1<<32 + 3, math.MaxInt - 24, math.MaxInt,
	}
}

// ints are arguments for p: at its multiples, at the halves of them, and at the
// ends of the ints.
func ints(p int) []int {
	all := []int{0, 1, -1, 2, -2, 3, 10, -17, 1 << 31, 1 << 32, -1 << 32, 1<<62 + 1, math.MaxInt, math.MaxInt - 1, math.MinInt, math.MinInt + 1}
	for _, base := range []int{p / 2, p, 2 * p, math.MaxInt / p * p} {
		all = append(all, base, base-1, base-2, -base, -base+1, -base-1)
		if base < math.MaxInt/2 {
			all = append(all, base+1, base+2)
		}
	}
	return all
}

// noise returns 64 digits; they are the same in each run.
func noise(seed *uint64) uint64 {
	*seed = *seed*6364136223846793005 + 1442695040888963407
	high := *seed >> 32
	*seed = *seed*6364136223846793005 + 1442695040888963407
	return high<<32 | *seed>>32
}

// integers are short and long ones of both signs, plain or not, among them
// multiples of p and their neighbours.
func integers(p int) []api.Int {
	mags := [][]uint32{nil, {}, {0}, {0, 0, 0}, {1}, {1, 0, 0}, {top}, {0, 1}, {top, top}, {0, 0, 1}, {0, 0, 0, 1 << 31, 0}, {top, 0, top, 0, 0}}
	seed := uint64(p)
	for length := range 12 {
		var mag []uint32
		for range 2 * length {
			mag = append(mag, uint32(noise(&seed)))
		}
		multiple := nat.Mul(mag, nat.Of(p))
		mags = append(mags, mag, multiple, append(slices.Clone(multiple), 0), nat.Add(multiple, nat.Of(1)), nat.Add(multiple, nat.Of(p-1)))
	}
	var all []api.Int
	for _, mag := range mags {
		all = append(all, api.Int{Mag: mag}, api.Int{Neg: true, Mag: mag})
	}
	return all
}

func toBig(a api.Int) *big.Int {
	z := new(big.Int)
	for _, limb := range slices.Backward(a.Mag) {
		z.Or(z.Lsh(z, 32), big.NewInt(int64(limb)))
	}
	if a.Neg {
		z.Neg(z)
	}
	return z
}

// residue returns what the library says: its Mod is never negative.
func residue(x *big.Int, p int) int {
	return int(new(big.Int).Mod(x, big.NewInt(int64(p))).Int64())
}

func large(n int) *big.Int {
	return big.NewInt(int64(n))
}

// sieve tells of each number below limit whether it is a prime.
func sieve(limit int) []bool {
	is := make([]bool, limit)
	for n := 2; n < limit; n++ {
		is[n] = true
	}
	for n := 2; n*n < limit; n++ {
		for m := n * n; is[n] && m < limit; m += n {
			is[m] = false
		}
	}
	return is
}

func TestE1Is(t *testing.T) {
	for n, want := range sieve(200000) {
		if prime.Is(n) != want {
			t.Errorf("Is(%d) is %t", n, !want)
		}
		if prime.Is(-n) {
			t.Errorf("Is(%d)", -n)
		}
	}
	for _, p := range primes() {
		if !prime.Is(p) {
			t.Errorf("not Is(%d)", p)
		}
	}
	for _, n := range noPrimes() {
		if prime.Is(n) {
			t.Errorf("Is(%d)", n)
		}
	}
}

// The least divisor of a product of neighbouring primes is nearly its root.
func TestE1IsOfSquaresAndProducts(t *testing.T) {
	last := 2
	for n, is := range sieve(46400) {
		if is && (prime.Is(n*n) || prime.Is(n*last)) {
			t.Errorf("Is of %d times itself or %d", n, last)
		}
		if is {
			last = n
		}
	}
}

func TestE1IsNearTheGreatest(t *testing.T) {
	for n := greatest - 400; n <= greatest; n++ {
		if want := large(n).ProbablyPrime(0); prime.Is(n) != want {
			t.Errorf("Is(%d) is %t", n, !want)
		}
	}
	for n := greatest + 1; n < greatest+400; n++ {
		if prime.Is(n) || prime.Is(2*n) || prime.Is(-n) {
			t.Errorf("Is of %d, its double or its negative", n)
		}
	}
	seed := uint64(1)
	for range 2000 {
		n := int(noise(&seed) >> 33)
		if want := large(n).ProbablyPrime(0); prime.Is(n) != want {
			t.Errorf("Is(%d) is %t", n, !want)
		}
	}
}

func TestE1After(t *testing.T) {
	is := sieve(50000)
	next := 50021
	for n := len(is) - 1; n >= 0; n-- {
		if got := prime.After(n); got != next {
			t.Errorf("After(%d) is %d, not %d", n, got, next)
		}
		if is[n] {
			next = n
		}
	}
	for _, n := range []int{-1, -2, -3, -100, -greatest, -1 << 31, -1 << 32, math.MinInt, math.MinInt + 1} {
		if got := prime.After(n); got != 2 {
			t.Errorf("After(%d) is %d", n, got)
		}
	}
}

func TestE1AfterFarGaps(t *testing.T) {
	for _, gap := range [][2]int{{113, 127}, {1327, 1361}, {31397, 31469}, {1357201, 1357333}, {20831323, 20831533}, {1453168141, 1453168433}} {
		for _, n := range []int{gap[0], gap[0] + 1, (gap[0] + gap[1]) / 2, gap[1] - 1} {
			if got := prime.After(n); got != gap[1] {
				t.Errorf("After(%d) is %d, not %d", n, got, gap[1])
			}
		}
		if got := prime.After(gap[0] - 1); got != gap[0] {
			t.Errorf("After(%d) is %d", gap[0]-1, got)
		}
	}
}

func TestE1AfterTheGreatest(t *testing.T) {
	for n, want := range map[int]int{
		2147483628: 2147483629, 2147483629: greatest, 2147483630: greatest, greatest - 1: greatest, greatest: 0, greatest + 1: 0, greatest + 2: 0,
		1<<31 + 10: 0, 1 << 32: 0, 1<<32 + 1: 0, 1 << 40: 0, math.MaxInt - 1: 0, math.MaxInt: 0,
	} {
		if got := prime.After(n); got != want {
			t.Errorf("After(%d) is %d, not %d", n, got, want)
		}
	}
}

func TestE2Mod(t *testing.T) {
	for _, p := range primes() {
		for _, a := range integers(p) {
			got, e := prime.Mod(a, p)
			if want := residue(toBig(a), p); got != want || e != api.OK {
				t.Errorf("Mod(%v, %d) is %d, %d, not %d", a, p, got, e, want)
			}
		}
		for _, n := range ints(p) {
			got, e := prime.Mod(whole.Of(n), p)
			if want := residue(large(n), p); got != want || e != api.OK {
				t.Errorf("Mod(%d, %d) is %d, %d, not %d", n, p, got, e, want)
			}
		}
	}
}

func TestE2ModOfALongNumber(t *testing.T) {
	long := make([]uint32, 20000)
	seed := uint64(2)
	for i := range long {
		long[i] = uint32(noise(&seed))
	}
	bytes := make([]byte, 0, 4*len(long))
	for _, limb := range slices.Backward(long) {
		bytes = append(bytes, byte(limb>>24), byte(limb>>16), byte(limb>>8), byte(limb))
	}
	value := new(big.Int).SetBytes(bytes)
	for _, p := range primes() {
		if got, e := prime.Mod(api.Int{Mag: long}, p); got != residue(value, p) || e != api.OK {
			t.Errorf("Mod by %d: %d, %d", p, got, e)
		}
		if got, e := prime.Mod(api.Int{Neg: true, Mag: long}, p); got != residue(new(big.Int).Neg(value), p) || e != api.OK {
			t.Errorf("Mod of the negative by %d: %d, %d", p, got, e)
		}
	}
}

func TestE2ModByNoPrime(t *testing.T) {
	for _, p := range noPrimes() {
		for _, a := range integers(7) {
			if got, e := prime.Mod(a, p); got != 0 || e != api.ErrPrime {
				t.Fatalf("Mod(%v, %d) is %d, %d", a, p, got, e)
			}
		}
	}
}

func TestE3AddMul(t *testing.T) {
	for _, p := range primes() {
		some := ints(p)
		for _, a := range some {
			for _, b := range some {
				x, y := large(a), large(b)
				if got, want := prime.Add(a, b, p), residue(new(big.Int).Add(x, y), p); got != want {
					t.Errorf("Add(%d, %d, %d) is %d, not %d", a, b, p, got, want)
				}
				if got, want := prime.Mul(a, b, p), residue(new(big.Int).Mul(x, y), p); got != want {
					t.Errorf("Mul(%d, %d, %d) is %d, not %d", a, b, p, got, want)
				}
			}
		}
	}
}

func TestE3SmallNumbers(t *testing.T) {
	for _, p := range []int{2, 3, 5, 7, 11} {
		for a := -3 * p; a <= 3*p; a++ {
			for b := -3 * p; b <= 3*p; b++ {
				if got, want := prime.Add(a, b, p), (a+b+6*p)%p; got != want {
					t.Errorf("Add(%d, %d, %d) is %d, not %d", a, b, p, got, want)
				}
				if got, want := prime.Mul(a, b, p), (a+3*p)*(b+3*p)%p; got != want {
					t.Errorf("Mul(%d, %d, %d) is %d, not %d", a, b, p, got, want)
				}
			}
		}
	}
}

func TestE3NoPrime(t *testing.T) {
	for _, p := range noPrimes() {
		for _, a := range ints(7) {
			for _, b := range []int{0, 1, 2, -1, 12, math.MaxInt, math.MinInt} {
				if got := prime.Add(a, b, p); got != 0 {
					t.Fatalf("Add(%d, %d, %d) is %d", a, b, p, got)
				}
				if got := prime.Mul(a, b, p); got != 0 {
					t.Fatalf("Mul(%d, %d, %d) is %d", a, b, p, got)
				}
			}
		}
	}
}

// powers are 0 and up to the greatest int, with those around p, at which powers
// come round.
func powers(p int) []int {
	return []int{0, 1, 2, 3, 4, 5, 10, 63, 64, 65, p - 2, p - 1, p, p + 1, 2*p - 1, p * p, 1 << 32, 1<<62 - 1, 1 << 62, math.MaxInt - 1, math.MaxInt}
}

func TestE4Pow(t *testing.T) {
	for _, p := range primes() {
		for _, a := range ints(p) {
			base := large(residue(large(a), p))
			for _, n := range powers(p) {
				want := residue(new(big.Int).Exp(base, large(n), large(p)), p)
				if got := prime.Pow(a, n, p); got != want {
					t.Errorf("Pow(%d, %d, %d) is %d, not %d", a, n, p, got, want)
				}
			}
		}
	}
}

func TestE4PowStepByStep(t *testing.T) {
	for _, p := range []int{2, 3, 5, 7, 13} {
		for a := -2 * p; a <= 2*p; a++ {
			want := 1
			for n := range 40 {
				if got := prime.Pow(a, n, p); got != want {
					t.Errorf("Pow(%d, %d, %d) is %d, not %d", a, n, p, got, want)
				}
				want = want * (a + 2*p) % p
			}
		}
	}
}

func TestE4PowOfZero(t *testing.T) {
	for _, p := range primes() {
		for _, a := range []int{0, p, -p, 5 * p} {
			if got := prime.Pow(a, 0, p); got != 1 {
				t.Errorf("Pow(%d, 0, %d) is %d", a, p, got)
			}
			for _, n := range powers(p)[1:] {
				if n > 0 && prime.Pow(a, n, p) != 0 {
					t.Errorf("Pow(%d, %d, %d) is not 0", a, n, p)
				}
			}
		}
	}
}

func TestE4PowOfWrongArguments(t *testing.T) {
	for _, p := range primes() {
		for _, a := range []int{0, 1, 2, -1, p, p + 1} {
			for _, n := range []int{-1, -2, -3, -p, 1 - p, math.MinInt, math.MinInt + 1} {
				if got := prime.Pow(a, n, p); got != 0 {
					t.Errorf("Pow(%d, %d, %d) is %d", a, n, p, got)
				}
			}
		}
	}
	for _, p := range noPrimes() {
		for _, a := range []int{0, 1, 2, 3, -1, math.MaxInt, math.MinInt} {
			for _, n := range []int{0, 1, 2, 5, -1, math.MaxInt, math.MinInt} {
				if got := prime.Pow(a, n, p); got != 0 {
					t.Errorf("Pow(%d, %d, %d) is %d", a, n, p, got)
				}
			}
		}
	}
}

func TestE4Inv(t *testing.T) {
	for _, p := range primes() {
		for _, a := range ints(p) {
			want := 0
			if inverse := new(big.Int).ModInverse(large(residue(large(a), p)), large(p)); inverse != nil {
				want = int(inverse.Int64())
			}
			if got := prime.Inv(a, p); got != want {
				t.Errorf("Inv(%d, %d) is %d, not %d", a, p, got, want)
			}
		}
	}
	for _, p := range []int{2, 3, 5, 7, 101} {
		for a := range p {
			if got := prime.Inv(a, p); got < 0 || got >= p || a > 0 && a*got%p != 1 || a == 0 && got != 0 {
				t.Errorf("Inv(%d, %d) is %d", a, p, got)
			}
		}
	}
}

func TestE4InvOfMultiples(t *testing.T) {
	for _, p := range primes() {
		for _, a := range []int{0, p, -p, 2 * p, -3 * p, p * p, math.MaxInt / p * p, math.MinInt / p * p} {
			if got := prime.Inv(a, p); got != 0 {
				t.Errorf("Inv(%d, %d) is %d", a, p, got)
			}
		}
	}
	for _, p := range noPrimes() {
		for _, a := range []int{0, 1, 2, 3, 5, -1, math.MaxInt, math.MinInt} {
			if got := prime.Inv(a, p); got != 0 {
				t.Errorf("Inv(%d, %d) is %d", a, p, got)
			}
		}
	}
}

// expectOf holds Of of a fraction, plain or not, against the library's.
func expectOf(t *testing.T, x api.Rat, p int) {
	t.Helper()
	value, den := new(big.Rat), toBig(api.Int{Mag: x.Den})
	if den.Sign() != 0 {
		value.SetFrac(toBig(x.Num), den)
	}
	want, wrong := 0, api.ErrZero
	if inverse := new(big.Int).ModInverse(value.Denom(), large(p)); inverse != nil {
		want, wrong = residue(inverse.Mul(inverse, value.Num()), p), api.OK
	}
	if got, e := prime.Of(x, p); got != want || e != wrong {
		t.Errorf("Of(%s, %d) is %d, %d, not %d, %d", value, p, got, e, want, wrong)
	}
}

func TestE5Of(t *testing.T) {
	for _, p := range []int{2, 3, 5, 7, 65537, greatest} {
		for num := -20; num <= 20; num++ {
			for den := range 21 {
				expectOf(t, api.Rat{Num: whole.Of(num), Den: nat.Of(den)}, p)
			}
		}
	}
	for _, p := range primes() {
		all := integers(p)
		for i, num := range all {
			for step := 1; step < 40; step += 7 {
				expectOf(t, api.Rat{Num: num, Den: all[(i+step)%len(all)].Mag}, p)
			}
		}
	}
	seed := uint64(3)
	for _, p := range primes() {
		for range 20 {
			expectOf(t, api.Rat{Num: whole.Of(int(noise(&seed))), Den: nat.Of(int(noise(&seed) >> 1))}, p)
		}
	}
}

// p may divide the Den that is given and not that of the plain fraction, which
// alone counts.
func TestE5OfNotPlain(t *testing.T) {
	for _, p := range primes() {
		for _, x := range []struct {
			num, den string
			want     int
			e        api.Errno
		}{
			{"1", "1", 1, api.OK}, {"3", "3", 1, api.OK}, {"0", "1", 0, api.OK}, {"-1", "1", p - 1, api.OK}, {"0", "5", 0, api.OK},
		} {
			num, _ := whole.Parse(x.num)
			den, _ := nat.Parse(x.den)
			square := nat.Mul(nat.Of(p), nat.Of(p))
			for _, common := range [][]uint32{nat.Of(1), nat.Of(p), square, nat.Mul(square, []uint32{0, 0, 6, top})} {
				longer := api.Rat{Num: whole.Mul(num, api.Int{Mag: common}), Den: nat.Mul(den, common)}
				padded := api.Rat{Num: api.Int{Neg: longer.Num.Neg, Mag: append(slices.Clone(longer.Num.Mag), 0)}, Den: append(slices.Clone(longer.Den), 0, 0)}
				over := api.Rat{Num: longer.Num, Den: nat.Mul(longer.Den, nat.Of(p))}
				for _, y := range []api.Rat{longer, padded} {
					if got, e := prime.Of(y, p); got != x.want || e != x.e {
						t.Errorf("Of(%v, %d) is %d, %d, not %d", y, p, got, e, x.want)
					}
				}
				if got, e := prime.Of(over, p); whole.Sign(num) != 0 && (got != 0 || e != api.ErrZero) {
					t.Errorf("Of(%v, %d) is %d, %d", over, p, got, e)
				}
				expectOf(t, over, p)
			}
		}
	}
}

// The plain form of a fraction whose Den is 0 is 0 with the Den 1.
func TestE5OfDenZero(t *testing.T) {
	for _, p := range primes() {
		for _, den := range [][]uint32{nil, {}, {0}, {0, 0, 0}} {
			for _, num := range integers(p) {
				if got, e := prime.Of(api.Rat{Num: num, Den: den}, p); got != 0 || e != api.OK {
					t.Errorf("Of(%v over 0, %d) is %d, %d", num, p, got, e)
				}
			}
		}
	}
}

func TestE5OfByNoPrime(t *testing.T) {
	for _, p := range noPrimes() {
		for _, x := range []api.Rat{{}, fraction.Of(1), {Num: whole.Of(1), Den: nat.Of(6)}, {Num: whole.Of(-4), Den: nat.Of(9)}, {Num: whole.Of(p), Den: whole.Of(p).Mag}, {Num: whole.Of(1), Den: whole.Of(p).Mag}} {
			if got, e := prime.Of(x, p); got != 0 || e != api.ErrPrime {
				t.Errorf("Of(%v, %d) is %d, %d", x, p, got, e)
			}
		}
	}
}

func TestE6Half(t *testing.T) {
	for _, p := range primes() {
		for _, a := range ints(p) {
			want := residue(large(a), p)
			if want > p/2 {
				want -= p
			}
			if got := prime.Half(a, p); got != want {
				t.Errorf("Half(%d, %d) is %d, not %d", a, p, got, want)
			}
		}
	}
	for _, x := range []struct{ a, p, want int }{
		{0, 2, 0}, {1, 2, 1}, {-1, 2, 1}, {2, 2, 0}, {3, 2, 1}, {1, 3, 1}, {2, 3, -1}, {-1, 3, -1}, {-2, 3, 1}, {2, 5, 2}, {3, 5, -2}, {4, 5, -1}, {5, 5, 0},
		{1<<30 - 1, greatest, 1<<30 - 1}, {1 << 30, greatest, 1 - 1<<30}, {greatest - 1, greatest, -1}, {greatest, greatest, 0}, {-1, greatest, -1},
	} {
		if got := prime.Half(x.a, x.p); got != x.want {
			t.Errorf("Half(%d, %d) is %d, not %d", x.a, x.p, got, x.want)
		}
	}
}

func TestE6HalfByNoPrime(t *testing.T) {
	for _, p := range noPrimes() {
		for _, a := range ints(7) {
			if got := prime.Half(a, p); got != 0 {
				t.Fatalf("Half(%d, %d) is %d", a, p, got)
			}
		}
	}
}

func TestE7Field(t *testing.T) {
	for _, p := range primes() {
		some := []int{0, 1, 2, p / 2, p/2 + 1, p - 1, math.MaxInt, math.MinInt}
		for _, a := range some {
			if prime.Add(a, 0, p) != residue(large(a), p) || prime.Mul(a, 1, p) != residue(large(a), p) {
				t.Errorf("%d modulo %d: 0 or 1 is not neutral", a, p)
			}
			if inverse := prime.Inv(a, p); residue(large(a), p) != 0 && prime.Mul(a, inverse, p) != 1 {
				t.Errorf("%d modulo %d: %d is no inverse", a, p, inverse)
			}
			if prime.Add(a, prime.Mul(a, -1, p), p) != 0 {
				t.Errorf("%d modulo %d has no negative", a, p)
			}
			for _, b := range some {
				if prime.Add(a, b, p) != prime.Add(b, a, p) || prime.Mul(a, b, p) != prime.Mul(b, a, p) {
					t.Errorf("%d and %d modulo %d don't commute", a, b, p)
				}
				expectLawsOfThree(t, a, b, some[(a&7+b&3)%len(some)], p)
			}
		}
	}
}

func expectLawsOfThree(t *testing.T, a, b, c, p int) {
	t.Helper()
	if prime.Add(prime.Add(a, b, p), c, p) != prime.Add(a, prime.Add(b, c, p), p) {
		t.Errorf("%d, %d, %d modulo %d: sums are not associative", a, b, c, p)
	}
	if prime.Mul(prime.Mul(a, b, p), c, p) != prime.Mul(a, prime.Mul(b, c, p), p) {
		t.Errorf("%d, %d, %d modulo %d: products are not associative", a, b, c, p)
	}
	if prime.Mul(a, prime.Add(b, c, p), p) != prime.Add(prime.Mul(a, b, p), prime.Mul(a, c, p), p) {
		t.Errorf("%d, %d, %d modulo %d: not distributive", a, b, c, p)
	}
}

func TestE7PowerOfThePrime(t *testing.T) {
	for _, p := range primes() {
		for _, a := range ints(p) {
			if got := prime.Pow(a, p, p); got != residue(large(a), p) {
				t.Errorf("Pow(%d, %d, %d) is %d", a, p, p, got)
			}
		}
	}
}

func TestE7ResiduesOfWholes(t *testing.T) {
	for _, p := range primes() {
		all := integers(p)
		for i, a := range all {
			b := all[(5*i+11)%len(all)]
			x, _ := prime.Mod(a, p)
			y, _ := prime.Mod(b, p)
			if sum, e := prime.Mod(whole.Add(a, b), p); sum != prime.Add(x, y, p) || e != api.OK {
				t.Errorf("%v + %v modulo %d: %d, %d", a, b, p, sum, e)
			}
			if product, e := prime.Mod(whole.Mul(a, b), p); product != prime.Mul(x, y, p) || e != api.OK {
				t.Errorf("%v * %v modulo %d: %d, %d", a, b, p, product, e)
			}
			if small, e := prime.Mod(whole.Of(prime.Half(x, p)), p); small != x || e != api.OK {
				t.Errorf("Half(%d, %d) has the residue %d, %d", x, p, small, e)
			}
		}
	}
}

func TestE7ResiduesOfFractions(t *testing.T) {
	for _, p := range primes() {
		all := integers(p)
		for i, num := range all {
			a := api.Rat{Num: num, Den: all[(3*i+1)%len(all)].Mag}
			b := api.Rat{Num: all[(7*i+2)%len(all)], Den: all[(5*i+4)%len(all)].Mag}
			x, e := prime.Of(a, p)
			y, f := prime.Of(b, p)
			if e != api.OK || f != api.OK {
				continue
			}
			if sum, e := prime.Of(fraction.Add(a, b), p); sum != prime.Add(x, y, p) || e != api.OK {
				t.Errorf("%v + %v modulo %d: %d, %d", a, b, p, sum, e)
			}
			if product, e := prime.Of(fraction.Mul(a, b), p); product != prime.Mul(x, y, p) || e != api.OK {
				t.Errorf("%v * %v modulo %d: %d, %d", a, b, p, product, e)
			}
		}
	}
}

func TestMemory(t *testing.T) {
	for _, p := range []int{2, 3, 5, 65537, greatest, 9, 0, -1} {
		lists := [][]uint32{{0xabcdef00, 3, 1 << 31, 0, 0, 77, 78}, {30, 0, 0, 0, 0, 44, 45}}
		var kept [][]uint32
		for _, list := range lists {
			kept = append(kept, slices.Clone(list))
		}
		for _, neg := range []bool{false, true} {
			a := api.Int{Neg: neg, Mag: lists[0][:5]}
			x := api.Rat{Num: a, Den: lists[1][:4]}
			first, e := prime.Mod(a, p)
			second, f := prime.Of(x, p)
			if again, g := prime.Mod(a, p); again != first || g != e {
				t.Errorf("Mod by %d answers otherwise when asked again", p)
			}
			if again, g := prime.Of(x, p); again != second || g != f {
				t.Errorf("Of by %d answers otherwise when asked again", p)
			}
			if !slices.EqualFunc(lists, kept, slices.Equal[[]uint32]) {
				t.Fatalf("modulo %d: an argument was changed", p)
			}
		}
	}
}
