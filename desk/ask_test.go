package desk_test

import (
	"strings"
	"testing"
)

// The ideals that the lines below ask for: Z is the zero ideal, W the whole ring.
func asked() []string {
	return []string{"ring lex x y", "fuel 5000", "ideal I x*y, x^2", "ideal J y - 1/2", "ideal K x^2 - 1, y*(x + 1)", "ideal Z 0", "ideal W x, 2*x - 3", "ideal P (x^2 + 1)^2*y"}
}

func TestOfOne(t *testing.T) {
	expectEach(t, "V1", asked(),
		say("basis I", " x*y| x^2|ok"), say("basis J", " y - 1/2|ok"), say("basis K", " x*y + y| x^2 - 1|ok"), say("basis Z", "ok"), say("basis W", " 1|ok"), say("basis P", " x^4*y + 2*x^2*y + y|ok"),
		say("radical I", " x|ok"), say("radical J", " y - 1/2|ok"), say("radical K", " x*y + y| x^2 - 1|ok"), say("radical Z", "ok"), say("radical W", " 1|ok"), say("radical P", " x^2*y + y|ok"),
		say("hull I", " x|ok"), say("hull J", " y - 1/2|ok"), say("hull K", " x + 1|ok"), say("hull Z", "ok"), say("hull W", " 1|ok"), say("hull P", " x^4*y + 2*x^2*y + y|ok"),
		say("dim I", "1"), say("dim J", "1"), say("dim K", "1"), say("dim Z", "2"), say("dim W", "-1"), say("dim P", "1"))
}

func TestComponents(t *testing.T) {
	expectEach(t, "V1", asked(),
		say("primary I", "component| x|ok|prime| x|ok|component| y| x^2|ok|prime| y| x|ok|ok"), say("primary J", "component| y - 1/2|ok|prime| y - 1/2|ok|ok"),
		say("primary K", "component| x + 1|ok|prime| x + 1|ok|component| y| x - 1|ok|prime| y| x - 1|ok|ok"), say("primary Z", "component|ok|prime|ok|ok"), say("primary W", "ok"),
		say("primary P", "component| y|ok|prime| y|ok|component| x^4 + 2*x^2 + 1|ok|prime| x^2 + 1|ok|ok"),
		say("primes I", "prime| x|ok|prime| y| x|ok|ok"), say("primes J", "prime| y - 1/2|ok|ok"), say("primes K", "prime| x + 1|ok|prime| y| x - 1|ok|ok"), say("primes Z", "prime|ok|ok"), say("primes W", "ok"), say("primes P", "prime| y|ok|prime| x^2 + 1|ok|ok"),
		say("least I", "prime| x|ok|ok"), say("least J", "prime| y - 1/2|ok|ok"), say("least K", "prime| x + 1|ok|prime| y| x - 1|ok|ok"), say("least Z", "prime|ok|ok"), say("least W", "ok"), say("least P", "prime| y|ok|prime| x^2 + 1|ok|ok"))
}

func TestOfTwo(t *testing.T) {
	expectEach(t, "V1", asked(),
		say("sum I J", " y - 1/2| x|ok"), say("sum J I", " y - 1/2| x|ok"), say("sum I I", " x*y| x^2|ok"), say("sum Z I", " x*y| x^2|ok"), say("sum Z Z", "ok"), say("sum W Z", " 1|ok"), say("sum I W", " 1|ok"), say("sum K J", " y - 1/2| x + 1|ok"),
		say("product I J", " x*y^2 - 1/2*x*y| x^2*y - 1/2*x^2|ok"), say("product I I", " x^2*y^2| x^3*y| x^4|ok"), say("product I Z", "ok"), say("product Z I", "ok"), say("product W I", " x*y| x^2|ok"), say("product I W", " x*y| x^2|ok"),
		say("meet I J", " x*y^2 - 1/2*x*y| x^2*y - 1/2*x^2|ok"), say("meet I I", " x*y| x^2|ok"), say("meet I Z", "ok"), say("meet W I", " x*y| x^2|ok"), say("meet W W", " 1|ok"),
		say("quotient I J", " x*y| x^2|ok"), say("quotient J I", " y - 1/2|ok"), say("quotient I I", " 1|ok"), say("quotient I Z", " 1|ok"), say("quotient Z I", "ok"), say("quotient Z Z", " 1|ok"), say("quotient I W", " x*y| x^2|ok"), say("quotient W I", " 1|ok"), say("quotient K I", " x*y + y| x^2 - 1|ok"), say("quotient I K", " x*y| x^2|ok"), say("quotient P K", " x^4*y + 2*x^2*y + y|ok"),
		say("subset I J", "no"), say("subset J I", "no"), say("subset I I", "yes"), say("subset Z I", "yes"), say("subset I Z", "no"), say("subset Z Z", "yes"), say("subset I W", "yes"), say("subset W I", "no"), say("subset Z W", "yes"), say("subset P I", "no"))
	expectTalk(t, "V1", say("ideal I x", "ok"), say("ideal J x*y, x^2", "ok"), say("subset J I", "yes"), say("subset I J", "no"), say("quotient J I", " y| x|ok"), say("quotient I J", " 1|ok"))
}

func TestEliminate(t *testing.T) {
	expectEach(t, "V1", asked(),
		say("eliminate I 0", " x*y| x^2|ok"), say("eliminate I 1", "ok"), say("eliminate I 2", "ok"), say("eliminate I 3", "error 1"), say("eliminate I 9999999", "error 1"),
		say("eliminate J 0", " y - 1/2|ok"), say("eliminate J 1", " y - 1/2|ok"), say("eliminate J 2", "ok"), say("eliminate W 2", " 1|ok"), say("eliminate W 3", "error 1"), say("eliminate Z 0", "ok"), say("eliminate Z 2", "ok"), say("eliminate Z 3", "error 1"),
		// the word that is no number, then the name, then the error of the call
		say("eliminate L 0", "error 221"), say("eliminate L 3", "error 221"), say("eliminate L 9999999", "error 221"), say("eliminate L x", "error 220"), say("eliminate L 01", "error 220"), say("eliminate L -1", "error 220"), say("eliminate L 10000000", "error 220"), say("eliminate L ", "error 220"), say("eliminate 1 x", "error 220"), say("eliminate 1 1", "error 221"), say("eliminate  1", "error 221"), say("eliminate  ", "error 220"))
	var lines []said
	for _, wrong := range []string{"", "x", "J", "-1", "+1", "-0", "00", "01", "1x", "1.0", "1/1", " 1", "1 ", "1 1", "1 J", "  1", "10000000", "00000001", "18446744073709551617", "1\t", "\t1", "1\r", "1\x00", "\xff", "\u0661", "0x1", "1e0", "1_0", strings.Repeat("1", 100)} {
		lines = append(lines, say("eliminate I "+wrong, "error 220"))
	}
	expectEach(t, "V1", asked(), append(lines, say("eliminate I", "error 220"), say("eliminate 1", "error 220"), say("eliminate", "error 220"), say("eliminate ", "error 220"), say("eliminate  I 1", "error 220"))...)
	expectTalk(t, "V1", say("ring grevlex a b c d", "ok"), say("ideal I a - d^2, b - d^3, c - 1/2*a*b", "ok"), say("eliminate I 0", " d^2 - a| a*d - b| b^2 - 2*c*d| a*b - 2*c| a^2 - b*d|ok"), say("eliminate I 1", " b^2 - 2*c*d| d^3 - b| b*d^2 - 2*c|ok"), say("eliminate I 2", " d^5 - 2*c|ok"), say("eliminate I 3", "ok"), say("eliminate I 4", "ok"), say("eliminate I 5", "error 1"))
}

func TestOfText(t *testing.T) {
	expectEach(t, "V1", asked(),
		say("member I x", "no"), say("member I x^2", "yes"), say("member I x*y", "yes"), say("member I  x * y - 1/3*x^2 ", "yes"), say("member I 0", "yes"), say("member Z 0", "yes"), say("member Z x", "no"), say("member W 1", "yes"), say("member I 1", "no"), say("member I (x + y)*(x - y) + y^2", "yes"), say("member J 2*y - 1", "yes"), say("member K y", "no"),
		say("saturate I y", "1| x|ok"), say("saturate I x", "2| 1|ok"), say("saturate I x + y", "1| x|ok"), say("saturate I 1", "0| x*y| x^2|ok"), say("saturate I 0", "1| 1|ok"), say("saturate W 0", "0| 1|ok"), say("saturate W x", "0| 1|ok"), say("saturate Z x", "0|ok"), say("saturate Z 0", "1| 1|ok"), say("saturate K  - x - 1", "1| y| x - 1|ok"), say("saturate J 1/7*y", "0| y - 1/2|ok"), say("saturate P x^2*y + y ", "2| 1|ok"))
	var lines []said
	for _, command := range []string{"member", "saturate"} {
		for text, want := range map[string]string{"": "error 80", " ": "error 80", ",": "error 80", "x,y": "error 80", "x, y": "error 80", "x y": "error 80", "x J": "error 80", "I J": "error 81", "x,": "error 80", "x\t": "error 80", "x\r": "error 80", "\xff": "error 80", "x\x00": "error 80", "x +": "error 80", "1/0": "error 30", "a": "error 81", "z": "error 81", "I": "error 81", "a +": "error 81", "x^65537": "error 2", "(x)^65": "error 2"} {
			lines = append(lines, say(command+" I "+text, want))
			// the name comes before the text
			for _, name := range []string{"L", "i", "", "1", "x", "II", "I\r", "I,", "abcdefghi", "\xff", "\x00"} {
				lines = append(lines, say(command+" "+name+" "+text, "error 221"))
			}
		}
		lines = append(lines, say(command, "error 220"), say(command+" ", "error 220"), say(command+" I", "error 220"), say(command+" L", "error 220"), say(command+"  ", "error 221"), say(command+"  I x", "error 221"), say(command+"  I", "error 221"), say(command+"\tI x", "error 220"), say(command+" I\tx", "error 220"), say(" "+command+" I x", "error 220"))
	}
	expectEach(t, "V1", asked(), lines...)
}

// Names that are nobody's, and lines with too few words, with too many, and with empty ones.
func TestWrongQuestions(t *testing.T) {
	var lines []said
	for _, command := range strings.Fields("basis radical hull dim primary primes least") {
		for _, name := range []string{"L", "i", "II", "x", "", "1", "-", "0", "I,", ",", "I,J", "I\t", "\tI", "I\r", "I\x00", "\x00", "\xff", "\u0399", "abcdefghi", strings.Repeat("I", 3000), "basis", command} {
			lines = append(lines, say(command+" "+name, "error 221"))
		}
		for _, wrong := range []string{"", " I J", " I I", " L L", "  I", " I ", "  ", " L ", " I  ", "   I", " I x", " I 1", "\tI", "\x00 I", "s I J", ": I", "I", " I J K"} {
			lines = append(lines, say(command+wrong, "error 220"))
		}
		lines = append(lines, say(" "+command+" I", "error 220"), say("\t"+command+" I", "error 220"), say(strings.ToUpper(command)+" I", "error 220"), say("I "+command, "error 220"))
	}
	for _, command := range strings.Fields("sum product meet quotient subset") {
		for _, names := range []string{"I L", "L I", "L L", "L M", "I i", "i I", "I ", " I", " ", " J", "I 1", "1 I", "1 2", "I I\r", "I\t J", "I J\x00", "\xff J", "I I,J", "I, J", "x y", "I x", "abcdefghi J"} {
			lines = append(lines, say(command+" "+names, "error 221"))
		}
		for _, wrong := range []string{"", " ", " I", " L", "  I J", " I  J", " I J ", " I J K", " I J L", " L M N", "   ", " I,J", " I\tJ", "\tI J", "I J", " I J  ", "    I"} {
			lines = append(lines, say(command+wrong, "error 220"))
		}
		lines = append(lines, say(" "+command+" I J", "error 220"), say(strings.ToUpper(command)+" I J", "error 220"))
	}
	expectEach(t, "V1", asked(), lines...)
	// the state is unchanged
	all := asked()
	for _, x := range lines {
		if len(x.line) < 100 {
			all = append(all, x.line)
		}
		if len(all) == 90 {
			start := len(asked())
			out := ran(t, script(append(all, "basis I", "radical I", "dim Z", "eliminate J 1", "subset I W")...))
			if want := " x*y\n x^2\nok\n x\nok\n2\n y - 1/2\nok\nyes\n"; !strings.HasSuffix(out, "error 221\n"+want) && !strings.HasSuffix(out, "error 220\n"+want) {
				t.Errorf("V1: %q: %q", all[start:], out)
			}
			all = all[:start]
		}
	}
}
