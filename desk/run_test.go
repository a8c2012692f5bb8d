package desk_test

import (
	"strings"
	"testing"
)

func TestExample(t *testing.T) {
	expectTalk(t, "example 1",
		say("ideal I x*y, x^2", "ok"), say("radical I", " x|ok"), say("dim I", "2"), say("member I x", "no"),
		say("basis J", "error 221"), say("ring lex x x", "error 70"))
}

// Lines end with the byte 10, but for the last one, which need not.
func TestLines(t *testing.T) {
	for _, x := range []struct{ script, want string }{
		{"", ""}, {"\n", "error 220\n"}, {"\n\n\n", "error 220\nerror 220\nerror 220\n"},
		{"fuel 1", "ok\n"}, {"fuel 1\n", "ok\n"}, {"fuel 1\n\n", "ok\nerror 220\n"}, {"\nfuel 1", "error 220\nok\n"},
		{"fuel 1\nfuel 2", "ok\nok\n"}, {"fuel 1\n\nfuel 2\n", "ok\nerror 220\nok\n"}, {"ideal I x\nbasis I", "ok\n x\nok\n"}, {"ideal I x\nbasis I\n", "ok\n x\nok\n"},
		{"ideal I x,\ny\nbasis I", "error 80\nerror 220\nerror 221\n"}, {"ideal I x,y\r\nfuel 1\r\n", "error 80\nerror 220\n"}, {"fuel 1\rfuel 2", "error 220\n"},
		{" ", "error 220\n"}, {"  \n ", "error 220\nerror 220\n"}, {"x", "error 220\n"}, {"ok", "error 220\n"}, {"#", "error 220\n"}, {"fuel 1\v", "error 220\n"}, {"fuel 1\u2028fuel 2", "error 220\n"},
	} {
		expect(t, "V1", x.script, x.want)
	}
}

func TestLimitOfBytes(t *testing.T) {
	whole := func(n int) string { return "ideal I " + strings.Repeat(" ", n-len("ideal I ")-1) + "x" }
	expect(t, "V1", whole(4000), "ok\n")
	expect(t, "V1", whole(3999)+"\n", "ok\n")
	expect(t, "V1", whole(3992)+"\ndim I\n\n", "ok\n2\nerror 220\n")
	expect(t, "V1", whole(3994)+"\ndim I", "ok\n2\n")
	expect(t, "V1", strings.Repeat("\xff", 4000), "error 220\n")
	expect(t, "V1", strings.Repeat("\u00e9", 2000), "error 220\n")
	expect(t, "V1", strings.Repeat(strings.Repeat(" ", 39)+"\n", 100), strings.Repeat("error 220\n", 100))
	for _, s := range []string{
		whole(4001), whole(4000) + "\n", whole(3995) + "\ndim I", whole(3994) + "\ndim I\n", whole(100000),
		strings.Repeat("\xff", 4001), strings.Repeat("\u00e9", 2001), strings.Repeat(strings.Repeat(" ", 39)+"\n", 100) + " ",
		strings.Repeat("\n", 4001), strings.Repeat("\x00", 1<<20),
	} {
		expectLong(t, s)
	}
}

func TestLimitOfLines(t *testing.T) {
	many := func(line string, n int) string { return strings.Repeat(line+"\n", n) }
	for _, x := range []struct{ line, out string }{{"", "error 220"}, {"fuel 7", "ok"}, {"dim I", "error 221"}, {"ring lex x y", "ok"}, {"\r", "error 220"}} {
		expect(t, "V1", many(x.line, 99), many(x.out, 99))
		expect(t, "V1", many(x.line, 100), many(x.out, 100))
		expect(t, "V1", many(x.line, 99)+"fuel 0", many(x.out, 99)+"ok\n")
		expect(t, "V1", many(x.line, 99)+" ", many(x.out, 99)+"error 220\n")
		expectLong(t, many(x.line, 100)+"fuel 0")
		expectLong(t, many(x.line, 100)+" ")
		expectLong(t, many(x.line, 101))
		expectLong(t, many(x.line, 250))
		expectLong(t, many(x.line, 3999))
	}
}

// The command is the first word, in small letters.
func TestCommands(t *testing.T) {
	before := []string{"ideal I x", "ideal J y", "ideal basis z"}
	var lines []said
	for _, command := range strings.Fields("ring fuel ideal basis radical hull dim primary primes least sum product meet quotient subset eliminate member saturate") {
		for _, wrong := range []string{
			strings.ToUpper(command), strings.ToUpper(command[:1]) + command[1:], command[:len(command)-1], command + "s", command + "x", command + "\x00", command + "\t",
			"\t" + command, "", " ", "x", command + ":", "\"" + command + "\"", command + "\u00a0", "\xef\xbb\xbf" + command, command[1:],
		} {
			for _, rest := range []string{"", " ", " I", " I J", " I 1", " I x", " K x", " 5", " lex x", " I J K"} {
				lines = append(lines, say(wrong+rest, "error 220"))
			}
		}
		lines = append(lines, say(command, "error 220"), say(" "+command, "error 220"), say(" "+command+" I", "error 220"), say("  "+command+" I J", "error 220"), say("\t"+command+" I", "error 220"))
	}
	expectEach(t, "V1", before, lines...)
	expectTalk(t, "V1", say("prime I", "error 220"), say("component I", "error 220"), say("ok", "error 220"), say("error 220", "error 220"), say("yes", "error 220"), say("is I", "error 220"), say("block x", "error 220"))
}
