package desk_test

import (
	"fmt"
	"strings"
	"testing"
)

func TestIdeal(t *testing.T) {
	expectTalk(t, "V1",
		say("ideal I x", "ok"), say("ideal J y,z", "ok"), say("ideal K x*y - 1, z^2 , y - z,x,0", "ok"), say("ideal i 0", "ok"), say("ideal k 0,0, 0", "ok"), say("ideal j 1", "ok"), say("ideal L -1/2*(x + y)^2*3 - 2/3, 1/7", "ok"),
		say("ideal M (x + 2*y)*z + 1/3, 5*y - 3/4", "ok"), say("ideal N  x ,  y ", "ok"),
		say("basis I", " x|ok"), say("basis J", " z| y|ok"), say("basis K", " 1|ok"), say("basis i", "ok"), say("basis k", "ok"), say("basis j", " 1|ok"), say("basis L", " 1|ok"),
		say("basis M", " y - 3/20| x*z + 3/10*z + 1/3|ok"), say("basis N", " y| x|ok"), say("dim i", "3"), say("dim j", "-1"))
}

// Which names there may be, and which of them are the same.
func TestNamesOfIdeals(t *testing.T) {
	expectTalk(t, "V1",
		say("ideal I x", "ok"), say("ideal i y", "ok"), say("basis I", " x|ok"), say("basis i", " y|ok"), say("ideal I z", "error 221"), say("ideal i z", "error 221"), say("basis I", " x|ok"), say("basis i", " y|ok"),
		say("ideal ii x^2", "ok"), say("ideal Ii x^3", "ok"), say("ideal iI x^4", "ok"), say("basis Ii", " x^3|ok"), say("basis II", "error 221"),
		say("ideal x y", "ok"), say("ideal y x", "ok"), say("basis x", " y|ok"), say("basis y", " x|ok"), say("member x y", "yes"), say("member y y", "no"), say("ideal x x", "error 221"),
		say("ideal ideal z", "ok"), say("ideal basis z - 1", "ok"), say("basis basis", " z - 1|ok"), say("basis ideal", " z|ok"), say("sum ideal basis", " 1|ok"), say("ideal ok x", "ok"), say("ideal lex x*y", "ok"), say("meet ok lex", " x*y|ok"),
		say("ideal a1234567 x", "ok"), say("ideal Z9 x", "ok"), say("ideal error x", "ok"), say("ideal ideal x", "error 221"))
	for _, name := range strings.Fields("a z A Z a0 Z9 abcdefgh AAAAAAAA a0000000 z9z9z9z9 x y z ring fuel ideal basis radical hull dim primary primes least sum product meet quotient subset member saturate lex yes no t tt") {
		expectTalk(t, "V1", say("ideal "+name+" x, y", "ok"), say("dim "+name, "1"), say("ideal "+name+" x", "error 221"), say("dim "+name, "1"), say("ideal "+name+"a x"[len(name)/8:], map[bool]string{true: "ok", false: "error 221"}[len(name) < 8]))
	}
}

// A name that is none of a variable is no line, whatever the text is, and also if there are
// 20 ideals already.
func TestWrongNamesOfIdeals(t *testing.T) {
	var lines []said
	for _, wrong := range []string{"", "1", "0", "1a", "9", "_", "a_", "_a", "a-b", "-a", "a.b", "a,b", "a,", ",a", "a*b", "(a)", "a\t", "\ta", "\t", "a\r", "\u00e9", "a\u00e9", "\xff", "a\xff", "\x00", "a\x00", "abcdefghi", "a12345678", "123456789", "aaaaaaaaaaaaaaaa", strings.Repeat("a", 3000), "\u0430", "\uff41", "a\u0661"} {
		for _, text := range []string{"x", "", "a", "1/0", "x,,", " ", "x, y", "(x)^65"} {
			lines = append(lines, say("ideal "+wrong+" "+text, "error 220"))
		}
		lines = append(lines, say("ideal "+wrong, "error 220"))
	}
	lines = append(lines, say("ideal", "error 220"), say("ideal I", "error 220"), say("ideal  I x", "error 220"), say("ideal  ", "error 220"), say("ideal   ", "error 220"), say("ideal  x", "error 220"), say("ideal I\tx", "error 220"), say("ideal\tI x", "error 220"), say(" ideal I x", "error 220"), say("ideal I,x", "error 220"), say("ideal I=x", "error 220"), say("Ideal I x", "error 220"))
	expectEach(t, "V1", nil, lines...)
	expectEach(t, "V1", twenty(), lines...)
}

// twenty are the lines of 20 ideals, from a0 to a19: just as many as there may be.
func twenty() (lines []string) {
	for i := range 20 {
		lines = append(lines, fmt.Sprintf("ideal a%d x - %d", i, i))
	}
	return lines
}

func TestNumberOfIdeals(t *testing.T) {
	lines := twenty()
	expect(t, "V1", script(lines...), strings.Repeat("ok\n", 20))
	expectEach(t, "V1", lines[:19], say(lines[19], "ok"), say("ideal b x", "ok"), say("ideal a18 x", "error 221"))
	expectEach(t, "V1", lines, say("ideal b x", "error 221"), say("ideal a0 x", "error 221"), say("ideal a19 x", "error 221"), say("ideal b 1/0", "error 221"), say("ideal b ", "error 221"), say("ideal a0 a", "error 221"), say("ideal b", "error 220"), say("ideal 1 x", "error 220"),
		say("basis a0", " x|ok"), say("basis a19", " x - 19|ok"), say("basis a20", "error 221"), say("sum a0 a1", " 1|ok"))
	after := append(lines, "ideal b x")
	expectEach(t, "V1", after, say("basis b", "error 221"), say("basis a0", " x|ok"), say("ideal c x", "error 221"), say("basis a19", " x - 19|ok"), say("ring lex x", "ok"))
	expectEach(t, "V1", append(after, "ring lex u v"), say("ideal b u", "ok"), say("ideal a0 u", "ok"), say("basis a0", "error 221"), say("basis b", "error 221"))
	// ideals that are refused don't count, nor do those that are asked
	refused := append(lines[:19:19], "ideal b 1/0", "ideal c", "ideal a0 x", "ideal d a", "ideal 1 x", "meet a0 a1", "radical a3", "ideal e x,")
	expectEach(t, "V1", refused, say("ideal b x", "ok"), say("basis b", "error 221"), say("ideal a0 x", "error 221"))
}

// The first error of the texts, in order, is the answer; behind names that are in use.
func TestWrongIdeals(t *testing.T) {
	lines := []said{}
	for _, x := range []struct {
		texts string
		e     int
	}{
		{"", 80}, {" ", 80}, {"  ", 80}, {",", 80}, {",,", 80}, {" , ", 80}, {",x", 80}, {"x,", 80}, {"x, ", 80}, {"x,,y", 80}, {"x, ,y", 80}, {",x,y", 80}, {"x,y,", 80}, {"x,y,,", 80},
		{"x +", 80}, {"+ x", 80}, {"x y", 80}, {"2x", 80}, {"x^", 80}, {"x^-1", 80}, {"x ^ y", 80}, {"007", 80}, {"(x", 80}, {"x)", 80}, {"(x, y)", 80}, {"x*(y, z)", 80}, {"x/2", 80}, {"x;y", 80}, {"x\ty", 80}, {"\tx", 80}, {"x\r", 80}, {"x\x00", 80}, {"\xff", 80}, {"\u00d7", 80}, {"x = 0", 80}, {"x, y\r", 80}, {"*", 80}, {"()", 80}, {"- -x", 80},
		{"a", 81}, {"X", 81}, {"xy", 81}, {"x, u", 81}, {"I", 81}, {"t", 81}, {"x*y + x1", 81},
		{"1/0", 30}, {"x, 3/0", 30}, {"0/0", 30}, {"x^65537", 2}, {"(x)^65", 2}, {"x^40000*x^40000", 2}, {"(x + y + z)^64", 2}, {strings.Repeat("(", 51) + "x" + strings.Repeat(")", 51), 2},
		{"a, 1/0", 81}, {"1/0, a", 30}, {"x +, 1/0, a", 80}, {"x^65537, a", 2}, {"a, x^65537", 81}, {"x, y, (x)^65, x +", 2}, {"x, , a", 80}, {"x, a, ", 81}, {"1/0,", 30}, {",1/0", 80}, {"z, y, x, 2/0, b, c, ", 30}, {"a +, b", 81}, {"1/0 +, b", 30},
	} {
		lines = append(lines, say("ideal J "+x.texts, fmt.Sprint("error ", x.e)))
	}
	before := []string{"ideal I x"}
	expectEach(t, "V1", before, lines...)
	for _, x := range lines {
		expectEach(t, "V1", append(before, x.line), say("basis J", "error 221"), say("basis I", " x|ok"), say("ideal J y", "ok"), say("ideal I y", "error 221"), say("sum I J", "error 221"))
		used := strings.Replace(x.line, "J", "I", 1)
		expectEach(t, "V1", before, say(used, "error 221"))
		expectEach(t, "V1", append(before, used), say("basis I", " x|ok"))
		expectEach(t, "V1", twenty(), say(x.line, "error 221"))
	}
}

// The texts are those of the ring that there is when the line is read.
func TestIdealsOfRings(t *testing.T) {
	expectTalk(t, "V1", say("ideal I a", "error 81"), say("ring lex a", "ok"), say("ideal I a", "ok"), say("ideal J x", "error 81"), say("ring lex x a", "ok"), say("ideal J x - 1/2*a", "ok"), say("basis J", " x - 1/2*a|ok"), say("ring lex a x", "ok"), say("ideal J x - 1/2*a", "ok"), say("basis J", " a - 2*x|ok"))
	expectTalk(t, "V1", say("ring grevlex a b c d e f", "ok"), say("ideal I a*f - b*e, 1/3*c - d^2", "ok"), say("basis I", " b*e - a*f| d^2 - 1/3*c|ok"), say("dim I", "4"), say("member I a*f - b*e + 3*c - 9*d^2", "yes"), say("eliminate I 3", "ok"), say("subset I I", "yes"),
		say("primary I", "error 2"), say("radical I", "error 2"), say("meet I I", "error 2"), say("saturate I a", "error 2"), say("quotient I I", "error 2"), say("sum I I", " b*e - a*f| d^2 - 1/3*c|ok"))
}
