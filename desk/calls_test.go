package desk_test

import (
	"fmt"
	"sort"
	"strings"
	"testing"

	"primrose/api"
)

// questions are lines with each command that calls a layer below, for the ideals I and J.
func questions() []string {
	return strings.Split("basis I;radical I;hull I;dim I;primary I;primes I;least I;sum I J;product I J;meet I J;quotient I J;subset I J;eliminate I 0;eliminate I 1;member I x^2*y - x + 1;saturate I x", ";")
}

// stepsOf is how many steps the layers below take for a line behind others.
func stepsOf(before []string, line string) int {
	d := newReader()
	for _, b := range before {
		d.read(b)
	}
	return sort.Search(api.MaxFuel, func(fuel int) bool {
		d.fuel = fuel
		return d.read(line) != fault(api.ErrFuel)
	})
}

// Just as many steps as a call takes are enough for it, also behind other calls, and one
// less is not.
func TestFuelOfCalls(t *testing.T) {
	t.Parallel()
	for _, before := range [][]string{
		{"ideal I x*y, x^2", "ideal J x*z, y"}, {"ring lex x y", "ideal I x*y - 1, y^2 - 1", "ideal J x^2, x*y + y"}, {"ring grevlex x y z", "ideal I x^2*z - y, y^2 - z, x*y", "ideal J y - 2, x*z"},
		{"ring grlex y x", "ideal I x^2*y - 1/2, x*y^2", "ideal J y^2, x - 1/3"}, {"ring grevlex y z x w", "ideal I x*w, y*z - x", "ideal J w - 1, x*z, y"},
	} {
		for _, line := range questions() {
			steps := stepsOf(before, line)
			if steps < 1 {
				t.Errorf("V1: %q behind %q takes no steps", line, before)
				continue
			}
			d := newReader()
			for _, b := range before {
				d.read(b)
			}
			d.fuel = api.MaxFuel
			want := d.read(line)
			if strings.HasPrefix(want, "error") {
				t.Errorf("V1: %q behind %q: %s", line, before, want)
			}
			start := strings.Repeat("ok\n", len(before))
			for _, x := range []struct {
				fuel int
				want string
			}{{steps, want}, {steps - 1, "error 3\n"}, {steps + 1, want}, {0, "error 3\n"}, {api.MaxFuel, want}} {
				all := script(before...) + script(fmt.Sprint("fuel ", x.fuel), line, line, line)
				expect(t, "V1", all, start+"ok\n"+strings.Repeat(x.want, 3))
			}
			last := fmt.Sprint("fuel ", steps)
			expect(t, "V1", script(before...)+script(fmt.Sprint("fuel ", steps-1), line, last, line, "fuel 1048577", "fuel x", line), start+"ok\nerror 3\nok\n"+want+"error 1\nerror 220\n"+want)
		}
	}
}

// What takes no steps is told without fuel.
func TestNoFuel(t *testing.T) {
	expectTalk(t, "V1", say("fuel 0", "ok"), say("ideal I 2*x - y", "ok"), say("ideal Z 0", "ok"), say("ideal U 1/2", "ok"),
		say("basis I", " x - 1/2*y|ok"), say("dim I", "2"), say("eliminate I 0", " x - 1/2*y|ok"), say("eliminate I 1", "ok"), say("sum Z I", " x - 1/2*y|ok"), say("product I Z", "ok"), say("product U I", " x - 1/2*y|ok"), say("subset Z I", "yes"), say("subset I Z", "no"), say("subset I I", "error 3"), say("member I x", "error 3"), say("member I y", "no"), say("member I 0", "yes"), say("member U z", "error 3"),
		say("primary U", "ok"), say("primes U", "ok"), say("least U", "ok"), say("quotient I Z", "error 3"), say("saturate I 0", "error 3"), say("sum I I", "error 3"), say("sum I U", "error 3"))
}

// An error of a call is the output, and the lines behind it are interpreted as if that line
// had not been there.
func TestErrorsOfCalls(t *testing.T) {
	t.Parallel()
	for _, x := range []struct {
		before []string
		lines  string
		e      api.Errno
	}{
		{[]string{"fuel 0", "ideal I x*y, x^2", "ideal J x*z, y"}, "", api.ErrFuel}, {[]string{"ideal I x*y, x^2", "fuel 0", "ideal J x*z, y", "ideal b 1/0", "ring lex"}, "", api.ErrFuel},
		{[]string{"fuel 1048576", "ring lex x y", "ideal I x^2 + y^40000, x*y^40000 + 1", "ideal J 1"}, "basis I;radical I;hull I;dim I;primary I;primes I;least I;sum I J;sum J I;product I J;product J I;meet I J;quotient I J;subset J I;eliminate I 0;member I 1;member I x;saturate I x", api.ErrLong},
		{[]string{"ring grevlex a b c d e f", "ideal I a", "ideal J b"}, "radical I;hull I;primary I;primes I;least I;meet I J;quotient I J;saturate I a", api.ErrLong},
		{[]string{"ring lex a", "ideal I a^256 - 2", "fuel 1048576"}, "radical I;hull I;primary I;primes I;least I", api.ErrLong}, {[]string{"ring lex a b", "ideal I a*b^13", "fuel 1048576"}, "radical I;hull I;primary I;primes I;least I", api.ErrLong},
		{[]string{"ring lex a", "ideal I a^40000"}, "product I I", api.ErrLong}, {[]string{"ring lex a b", "ideal I a - b"}, "eliminate I 3;eliminate I 4;eliminate I 9999999", api.ErrArg},
	} {
		lines := strings.Split(x.lines, ";")
		if x.lines == "" {
			lines = questions()
		}
		start := ran(t, script(x.before...))
		after := []string{"basis Z", "fuel 9", "ideal K 1/2", "dim K", "ideal I 1", "ring lex x", "dim K", "ideal I x^2", "basis I", "radical I", "fuel 99", "radical I"}
		rest := strings.TrimPrefix(ran(t, script(append(x.before, after...)...)), start)
		for _, line := range lines {
			expect(t, "V1", script(x.before...)+script(line), start+fault(x.e))
			expect(t, "V1", script(x.before...)+script(line, line)+script(after...), start+fault(x.e)+fault(x.e)+rest)
		}
		if many := script(x.before...) + script(lines...) + script(after...); len(x.before)+len(lines)+len(after) <= 100 {
			expect(t, "V1", many, start+strings.Repeat(fault(x.e), len(lines))+rest)
		}
	}
}
