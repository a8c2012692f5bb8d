package mono_test

import (
	"math"
	"slices"
	"strings"
	"testing"

	"primrose/api"
	"primrose/mono"
)

// limit is the greatest valid exponent.
const limit = 1 << 16

// wrongExponents are not valid; the low digits of some are a valid one's.
func wrongExponents() []int {
	return []int{-1, -2, -limit, limit + 1, limit + 2, 2 * limit, 1 << 31, 1 << 32, 1<<32 + 1, -1 << 32, math.MaxInt, math.MaxInt - 1, math.MinInt, math.MinInt + 1}
}

// letters returns so many names of one letter.
func letters(n int) []string {
	return strings.Split("abcdefghijklmnopqrstuvwxyz"[:n], "")
}

// rings returns the valid rings of n variables, of all orders.
func rings(n int) []api.Ring {
	all := []api.Ring{
		{Names: letters(n), Order: api.Lex},
		{Names: letters(n), Order: api.Grlex},
		{Names: letters(n), Order: api.Grevlex},
	}
	for first := 1; first < n; first++ {
		all = append(all, api.Ring{Names: letters(n), Order: api.Block, First: first})
	}
	return all
}

// wrongRings are rings that are not valid, each for one reason. None has other
// than two names, so that lists of two exponents fit but for that reason.
func wrongRings() []api.Ring {
	all := []api.Ring{
		{Names: []string{"x", "x"}},
		{Names: []string{"", "y"}},
		{Names: []string{"x", "abcdefghi"}},
		{Names: []string{"1x", "y"}},
		{Names: []string{"x", "y_"}},
		{Names: []string{"x", "y"}, Order: -1},
		{Names: []string{"x", "y"}, Order: 4},
		{Names: []string{"x", "y"}, Order: api.Block},
		{Names: []string{"x", "y"}, Order: api.Block, First: 2},
		{Names: []string{"x", "y"}, Order: api.Block, First: -1},
	}
	for _, order := range []int{api.Lex, api.Grlex, api.Grevlex} {
		all = append(all, api.Ring{Names: []string{"x", "y"}, Order: order, First: 1})
	}
	return all
}

// expectCheck holds Check against want, and with it Right of a list that fits.
func expectCheck(t *testing.T, r api.Ring, want bool) {
	t.Helper()
	e := mono.Check(r)
	if want && e != api.OK || !want && e != api.ErrRing {
		t.Errorf("Check(%q, %d, %d) is %d", r.Names, r.Order, r.First, e)
	}
	if mono.Right(r, make([]int, len(r.Names))) != want {
		t.Errorf("Right(%q, %d, %d) is %t", r.Names, r.Order, r.First, !want)
	}
}

func TestF1CountOfNames(t *testing.T) {
	expectCheck(t, api.Ring{}, false)
	expectCheck(t, api.Ring{Names: []string{}}, false)
	for n := range 27 {
		want := 1 <= n && n <= 6
		for _, order := range []int{api.Lex, api.Grlex, api.Grevlex} {
			expectCheck(t, api.Ring{Names: letters(n), Order: order}, want)
		}
		expectCheck(t, api.Ring{Names: letters(n), Order: api.Block, First: 1}, want && n > 1)
	}
}

// expectName uses a name at each index.
func expectName(t *testing.T, name string, want bool) {
	t.Helper()
	for n := 1; n <= 6; n++ {
		for i := range n {
			names := []string{"o0", "o1", "o2", "o3", "o4", "o5"}[:n]
			names[i] = name
			expectCheck(t, api.Ring{Names: names}, want)
		}
	}
}

func TestF1Names(t *testing.T) {
	for _, name := range []string{"x", "Z", "x1", "y12", "Zz", "a2345678", "abcdefgh", "ABCDEFGH", "x0000000", "x0", "xX", "A"} {
		expectName(t, name, true)
	}
	for _, name := range []string{
		"", " ", "1", "0", "9", "1x", "0123456", "abcdefghi", "a23456789", "x y", " x", "x ", "x_", "_x", "x-1", "x+", "x^2", "x*y", "x.", "x'", "x\n", "\x00", "x\x00",
		"é", "xé", "ß", "α", "xα", "\u0131", "\u212a", "x\u0661", "x\uff11", "\uff38", "\u2160", "\xff", "x\xff", "x\xc3", "\u200bx", "x\u0301", strings.Repeat("x", 1<<20),
	} {
		expectName(t, name, false)
	}
}

// Each character, at the beginning, inside and at the end.
func TestF1Characters(t *testing.T) {
	const alphabet = "abcdefghijklmnopqrstuvwxyzABCDEFGHIJKLMNOPQRSTUVWXYZ"
	for c := range rune(0x250) {
		text := string(c)
		letter := strings.Contains(alphabet, text)
		digit := strings.Contains("0123456789", text)
		expectName(t, text, letter)
		expectName(t, text+"x1", letter)
		expectName(t, "x1"+text, letter || digit)
		expectName(t, "x"+text+"y", letter || digit)
	}
	for c := range 256 {
		if text := string([]byte{'x', byte(c)}); c >= 128 {
			expectName(t, text, false)
			expectName(t, text[1:], false)
		}
	}
}

func TestF1LengthOfNames(t *testing.T) {
	for length := range 300 {
		expectName(t, strings.Repeat("q", length), 1 <= length && length <= 8)
		expectName(t, "q"+strings.Repeat("7", length), length <= 7)
	}
}

func TestF1NamesThatStandTwice(t *testing.T) {
	for n := 2; n <= 6; n++ {
		for i := range n {
			for j := range i {
				names := letters(n)
				names[i] = names[j]
				expectCheck(t, api.Ring{Names: names}, false)
				names[i] = strings.ToUpper(names[j])
				expectCheck(t, api.Ring{Names: names}, true)
				names[i] = names[j] + "0"
				expectCheck(t, api.Ring{Names: names}, true)
				names[i], names[j] = "abcdefgh", "abcdefgh"
				expectCheck(t, api.Ring{Names: names}, false)
				names[i] = "abcdefgi"
				expectCheck(t, api.Ring{Names: names}, true)
			}
		}
	}
}

func TestF1Orders(t *testing.T) {
	numbers := []int{0, 1, 2, 3, 4, 5, 6, 7, -1, -2, -3, 1 << 32, 1<<32 + 1, 1<<32 + 3, 1<<62 + 1, math.MaxInt, math.MinInt, math.MinInt + 1}
	for n := 1; n <= 6; n++ {
		for _, order := range numbers {
			for _, first := range numbers {
				want := 0 <= order && order <= 2 && first == 0 || order == 3 && 0 < first && first < n
				expectCheck(t, api.Ring{Names: letters(n), Order: order, First: first}, want)
			}
		}
	}
}

func TestF1WrongRings(t *testing.T) {
	for _, r := range wrongRings() {
		expectCheck(t, r, false)
	}
}

func TestF2Right(t *testing.T) {
	for n := 1; n <= 6; n++ {
		for _, r := range rings(n) {
			for length := range 10 {
				e := make([]int, length)
				for _, x := range []int{0, 1, 2, limit - 1, limit} {
					for i := range e {
						e[i] = x
					}
					if got := mono.Right(r, e); got != (length == n) {
						t.Errorf("Right(%v, %v) is %t", r, e, got)
					}
				}
			}
		}
	}
	if mono.Right(rings(1)[0], nil) {
		t.Error("Right of no list")
	}
}

func TestF2WrongExponents(t *testing.T) {
	for n := 1; n <= 6; n++ {
		for _, r := range rings(n) {
			for i := range n {
				for _, x := range wrongExponents() {
					e := make([]int, n)
					e[i] = x
					if mono.Right(r, e) {
						t.Errorf("Right(%v, %v)", r, e)
					}
				}
				e := make([]int, n)
				if e[i] = limit; !mono.Right(r, e) {
					t.Errorf("not Right(%v, %v)", r, e)
				}
			}
		}
	}
}

func TestF2WrongRings(t *testing.T) {
	for _, r := range wrongRings() {
		if mono.Right(r, []int{1, 2}) || mono.Right(r, []int{0, 0}) {
			t.Errorf("Right(%q, %d, %d)", r.Names, r.Order, r.First)
		}
	}
	if mono.Right(api.Ring{}, nil) || mono.Right(api.Ring{}, []int{}) || mono.Right(api.Ring{}, []int{0}) {
		t.Error("Right of a ring with no name")
	}
	if mono.Right(api.Ring{Names: letters(7)}, make([]int, 7)) {
		t.Error("Right of a ring with 7 names")
	}
}

func TestF3Degree(t *testing.T) {
	for _, x := range []struct {
		e    []int
		want int
	}{
		{nil, 0}, {[]int{}, 0}, {[]int{0}, 0}, {[]int{7}, 7}, {[]int{limit}, limit}, {[]int{1, 2}, 3}, {[]int{1, 0, 4, 0}, 5},
		{[]int{1, 2, 3, 4, 5, 6}, 21}, {[]int{limit, limit, limit, limit, limit, limit}, 6 * limit}, {[]int{1, 2, 3, 4, 5, 6, 7, limit}, 28 + limit},
	} {
		if got := mono.Degree(x.e); got != x.want {
			t.Errorf("Degree(%v) is %d, not %d", x.e, got, x.want)
		}
	}
	// More than 32 digits hold.
	long := slices.Repeat([]int{limit}, 70000)
	if got := mono.Degree(long); got != 70000*limit {
		t.Errorf("Degree of a long list is %d", got)
	}
	long[len(long)-1]++
	if got := mono.Degree(long); got != 0 {
		t.Errorf("Degree of a long list that ends wrong is %d", got)
	}
}

func TestF3WrongExponents(t *testing.T) {
	for n := 1; n <= 8; n++ {
		for i := range n {
			for _, x := range wrongExponents() {
				e := slices.Repeat([]int{3}, n)
				e[i] = x
				if got := mono.Degree(e); got != 0 {
					t.Errorf("Degree(%v) is %d", e, got)
				}
			}
		}
	}
	for _, e := range [][]int{{5, -5}, {-1, 3}, {3, -1, 1}, {math.MaxInt, math.MinInt, 9}, {math.MinInt, math.MinInt, 9}} {
		if got := mono.Degree(e); got != 0 {
			t.Errorf("Degree(%v) is %d", e, got)
		}
	}
}

// Arguments keep their names and exponents, and so does the memory behind them
// (R3); each answer has memory of its own; what is done to it changes no later
// answer (R4).
func TestMemory(t *testing.T) {
	names := []string{"x", "y", "z", "rest"}
	a, b := []int{1, 5, limit, 77, 78}, []int{1, 2, 0, 88, 89}
	keptNames, keptA, keptB := slices.Clone(names), slices.Clone(a), slices.Clone(b)
	for order, first := range []int{0, 0, 0, 1} {
		r := api.Ring{Names: names[:3], Order: order, First: first}
		if mono.Check(r) != api.OK || !mono.Right(r, a[:3]) || mono.Degree(a[:3]) != 6+limit || mono.Cmp(r, a[:3], b[:3]) != 1 || mono.Cmp(r, b[:3], b[:3]) != 0 {
			t.Errorf("wrong answers in %v", r)
		}
	}
	for i, call := range products() {
		first, _ := call(a[:3], b[:3])
		want := slices.Clone(first)
		for range 2 {
			answer, ok := call(a[:3], b[:3])
			if !ok || !slices.Equal(answer, want) {
				t.Errorf("call %d: an answer was changed through another one: %v", i, answer)
			}
			for j := range answer {
				answer[j] = 55
			}
			_ = append(answer, 55)
		}
		call(a[:3], b[:4])
		call(b[:3], a[:3])
	}
	if !slices.Equal(names, keptNames) || !slices.Equal(a, keptA) || !slices.Equal(b, keptB) {
		t.Errorf("an argument was changed: %v, %v, %v", names, a, b)
	}
}
