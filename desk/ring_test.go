package desk_test

import (
	"fmt"
	"testing"
)

// The ring shows in names, and in which monomial is the leading one; the fuel in how many
// steps a call may take.
func TestAtFirst(t *testing.T) {
	expectTalk(t, "V1",
		say("ideal I z^3 + 3*x + y^2 - 1/2", "ok"), say("basis I", " x + 1/3*y^2 + 1/3*z^3 - 1/6|ok"), say("dim I", "2"), say("ideal J a", "error 81"), say("ideal J u", "error 81"),
		say("basis J", "error 221"), say("ideal J x - 1", "ok"), say("member J x^1000 - 1", "yes"), say("member J x^1001 - 1", "error 3"), say("eliminate I 4", "error 1"), say("eliminate I 3", "ok"))
	expectEach(t, "V1", nil, say("basis I", "error 221"), say("basis x", "error 221"), say("ideal I X", "error 81"), say("eliminate x 1", "error 221"), say("subset I I", "error 221"))
}

func TestRing(t *testing.T) {
	for _, x := range []struct{ order, basis string }{
		{"lex", " x - 3*y^2*z + z^4"}, {"grlex", " z^4 - 3*y^2*z + x"}, {"grevlex", " z^4 - 3*y^2*z + x"},
	} {
		expectTalk(t, "V1", say("ring "+x.order+" x y z", "ok"), say("ideal I x + z^4 - 3*y^2*z", "ok"), say("basis I", x.basis+"|ok"))
	}
	expectTalk(t, "V1", say("ring grlex a b c", "ok"), say("ideal I 2*b^2 - a*c", "ok"), say("basis I", " a*c - 2*b^2|ok"),
		say("ring grevlex a b c", "ok"), say("ideal I 2*b^2 - a*c", "ok"), say("basis I", " b^2 - 1/2*a*c|ok"),
		say("ring lex c b a", "ok"), say("ideal I 2*b^2 - a*c", "ok"), say("basis I", " c*a - 2*b^2|ok"),
		say("ring lex b a c", "ok"), say("ideal I 2*b^2 - a*c", "ok"), say("basis I", " b^2 - 1/2*a*c|ok"), say("eliminate I 1", "ok"),
		say("ring lex x", "ok"), say("ideal I 2*x - 1", "ok"), say("basis I", " x - 1/2|ok"), say("ideal J y", "error 81"),
		say("ring lex a1 B2c lex ring zzzzzzzz Z", "ok"), say("ideal I Z*ring + lex*zzzzzzzz^2 - 5*a1*B2c", "ok"), say("basis I", " a1*B2c - 1/5*lex*zzzzzzzz^2 - 1/5*ring*Z|ok"), say("ideal J z", "error 81"),
		say("ring grevlex x X", "ok"), say("ideal I x - 3*X^2", "ok"), say("basis I", " X^2 - 1/3*x|ok"))
}

// A ring that may not be is refused, and so is an order that there is not.
func TestWrongRing(t *testing.T) {
	var lines []said
	for _, wrong := range []string{
		"", " ", "  ", "lex", "lex ", "lex  ", "grlex", "grevlex", "lex x x", "grlex x y x", "grevlex x y z u v v", "lex x  y", "lex  x", " lex x", "lex x ", "lex x y z ", "  lex x",
		"lex 1", "lex 1x", "lex x_", "lex x-y", "lex x,y", "lex x y,", "lex x.y", "lex x\ty", "lex\tx", "lex x\t", "lex x\r", "lex x y\r", "lex \u00e9", "lex x \xff", "lex x\x00", "lex \x00", "lex x *", "lex x^2", "lex -x",
		"lex abcdefghi", "lex x abcdefghi", "lex a12345678", "lex x y z u v w t", "lex x y z u v w t s", "grevlex x y z u v w x", "lex x y z u v w ", "lex x y z u v ",
		"block x", "block x y", "block 1 x y", "block", "Lex x", "LEX x", "grLex x", "Grevlex x y", "le x", "lexx x", "lex, x", "foo x", "x", "x y", "0 x", "1 x y", "2 x", "3 x y", "-1 x", "rev x", "grev x", "degrevlex x", "lex\x00 x", "lex\xff x", "grlexx x", "gr x",
	} {
		lines = append(lines, say("ring "+wrong, "error 70"))
	}
	before := []string{"ring grevlex a b", "fuel 3", "ideal I a*b - 1, b^2 - 1", "ideal J b - a^2"}
	expectEach(t, "V1", before, lines...)
	// the ring, the fuel and the ideals are still there
	for _, x := range lines {
		expectEach(t, "V1", append(before, x.line), say("basis J", " a^2 - b|ok"), say("basis I", "error 3"), say("ideal K b*a", "ok"), say("ideal J a", "error 221"), say("ideal K x", "error 81"))
	}
	expectEach(t, "V1", nil, append(lines, say("ring", "error 220"), say("ring\t", "error 220"), say("rings lex x", "error 220"))...)
}

// A ring that is taken removes all ideals, also if it is the same one, and keeps the fuel.
func TestOtherRing(t *testing.T) {
	for _, ring := range []string{"ring lex x y", "ring lex x y z", "ring grlex x y", "ring lex y x", "ring lex x y u v w z"} {
		expectTalk(t, "V1",
			say("ring lex x y", "ok"), say("fuel 1", "ok"), say("ideal I x*y - 1, y^2 - 1", "ok"), say("ideal J x", "ok"), say("basis I", "error 3"), say("basis J", " x|ok"),
			say(ring, "ok"), say("basis I", "error 221"), say("basis J", "error 221"), say("sum J I", "error 221"), say("subset I I", "error 221"), say("member I x", "error 221"), say("eliminate I 1", "error 221"),
			say("ideal I x*y - 1, y^2 - 1", "ok"), say("basis I", "error 3"), say("fuel 9", "ok"), say("basis J", "error 221"), say("ideal J y", "ok"), say("basis J", " y|ok"))
	}
	lines := []said{}
	for round := range 3 {
		for i := range 20 {
			lines = append(lines, say(fmt.Sprintf("ideal a%d x^%d", i, i+round), "ok"))
		}
		lines = append(lines, say("ideal b x", "error 221"), say("ring lex x", "ok"))
	}
	expectTalk(t, "V1", lines...)
}
