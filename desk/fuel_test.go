package desk_test

import (
	"fmt"
	"strings"
	"testing"
)

// powers asks what the ideal I of x - 1 tells in n steps: n not greater than 2^16.
func powers(n int) said {
	return say(fmt.Sprintf("member I x^%d - 1", n), "yes")
}

// tooLong is a line whose call has not enough fuel.
func tooLong(x said) said {
	return say(x.line, "error 3")
}

func TestFuel(t *testing.T) {
	talk := []said{say("ideal I x - 1", "ok")}
	for _, n := range []int{0, 1, 2, 9, 10, 99, 1000, 65535, 7} {
		talk = append(talk, say(fmt.Sprint("fuel ", n), "ok"), powers(n), tooLong(powers(n+1)))
	}
	expectTalk(t, "V1", talk...)
}

// The greatest fuel is just enough for 16 terms that take 2^16 steps each.
func TestMaxFuel(t *testing.T) {
	t.Parallel()
	terms := []string{}
	for i := range 16 {
		terms = append(terms, fmt.Sprintf("x^65536*y^%d", i))
	}
	all := "member I " + strings.Join(terms, " + ")
	expectEach(t, "V1", []string{"ideal I x - 1", "fuel 1048576"}, say(all, "no"), say(all+" + x*y^16", "error 3"), say(all+" + y^16", "no"))
	expectEach(t, "V1", []string{"ideal I x - 1", "fuel 1048575"}, say(all, "error 3"), say(all+" - x^65536 + x^65535", "no"))
}

// What is not taken leaves the fuel as it is.
func TestWrongFuel(t *testing.T) {
	var lines []said
	for _, n := range []string{"1048577", "1048580", "1050000", "2000000", "9999999"} {
		lines = append(lines, say("fuel "+n, "error 1"))
	}
	for _, wrong := range []string{
		"", " ", "  ", "00", "01", "05", "007", "0000000", "00000001", "01048576", "0000005", "10000000", "12345678", "99999999", "18446744073709551621", "99999999999999999999999999", strings.Repeat("1", 3000), strings.Repeat("0", 3000),
		"-1", "+1", "-0", "+0", "--1", "x", "1x", "x1", "1.5", "1.", "1e3", "0x10", "0b1", "1_000", "1,000", "1/1", "1+1", "five", " 5", "5 ", "5 5", "5 x", "  5", "5  ", "5\t", "\t5", "5\r", "5\x00", "\x005", "5\xff", "\u0665", "\uff15", "\u00b2", "I",
	} {
		lines = append(lines, say("fuel "+wrong, "error 220"))
	}
	lines = append(lines, say("fuel", "error 220"), say("fuel5", "error 220"), say("fuel\t5", "error 220"), say("fuel=5", "error 220"), say(" fuel 5", "error 220"), say("FUEL 5", "error 220"))
	for _, fuel := range []int{2, 6, 1000, 1048576} {
		before := []string{"ideal I x - 1", fmt.Sprint("fuel ", fuel)}
		expectEach(t, "V1", before, lines...)
		for _, x := range lines {
			after := []said{powers(min(fuel, 1001))}
			if fuel <= 1000 {
				after = append(after, tooLong(powers(fuel+1)))
			}
			expectEach(t, "V1", append(before, x.line), after...)
		}
	}
}
