package desk_test

import (
	"strings"
	"testing"
)

// outputs are those of each line of a script: what the script up to the line outputs begins
// with what it outputs up to the line before (V2).
func outputs(t *testing.T, lines []string) (all []string) {
	t.Helper()
	before := ""
	for k := range lines {
		out := ran(t, script(lines[:k+1]...))
		rest, ok := strings.CutPrefix(out, before)
		if !ok || !strings.HasSuffix(rest, "\n") {
			t.Fatalf("V2: %q: behind\n%sthere is\n%s", lines[:k+1], before, out)
		}
		if other := ran(t, strings.TrimSuffix(script(lines[:k+1]...), "\n")); lines[k] != "" && other != out {
			t.Fatalf("V1: %q with a last line that does not end: %q", lines[:k+1], other)
		}
		all, before = append(all, rest), out
	}
	return all
}

// asks reports whether a line only asks: no other line changes anything.
func asks(line string) bool {
	command, _, _ := strings.Cut(line, " ")
	return command != "ring" && command != "fuel" && command != "ideal"
}

// kept is what is left of some lines, and of their outputs, without those that may be left
// out, of which some are.
func (w *writer) kept(lines, outs []string, may func(line, out string) bool) (less []string, want string) {
	for k, line := range lines {
		if !may(line, outs[k]) || w.below(3) == 0 {
			less, want = append(less, line), want+outs[k]
		}
	}
	return less, want
}

// The output of the first lines is the beginning of the output; lines that only ask, or that
// are refused, may be left out.
func TestTheorem(t *testing.T) {
	t.Parallel()
	w := writer{noise: 10}
	for range 200 {
		lines := w.lines(5 + w.below(20))
		outs := outputs(t, lines)
		for range 4 {
			less, want := w.kept(lines, outs, func(line, _ string) bool { return asks(line) })
			expect(t, "V2", script(less...), want)
			less, want = w.kept(lines, outs, func(_, out string) bool { return strings.HasPrefix(out, "error") })
			expect(t, "V2", script(less...), want)
			less, want = w.kept(lines, outs, func(line, out string) bool { return asks(line) || strings.HasPrefix(out, "error") })
			expect(t, "V2", script(less...), want)
		}
		if t.Failed() {
			return
		}
	}
}

// A line that only asks may stand at any place, also twice.
func TestMoreQuestions(t *testing.T) {
	t.Parallel()
	w := writer{noise: 11}
	for range 300 {
		lines := w.lines(8)
		outs := outputs(t, lines)
		var more []string
		want := ""
		for k, line := range lines {
			question := w.question()
			for !asks(question) {
				question = w.question()
			}
			answer := strings.TrimPrefix(ran(t, script(lines[:k]...)+script(question)), strings.Join(outs[:k], ""))
			more, want = append(more, question, question, line), want+answer+answer+outs[k]
		}
		expect(t, "V2", script(more...), want)
	}
}

// Two scripts one behind the other, of which the second one begins with the state that there
// is at first, have the output of both.
func TestBehind(t *testing.T) {
	t.Parallel()
	w := writer{noise: 12}
	for range 300 {
		a, b := w.lines(15), w.lines(15)
		b = append([]string{"ring lex x y z", "fuel 1000"}, b...)
		expect(t, "V2", script(a...)+script(b...), ran(t, script(a...))+ran(t, script(b...)))
	}
}
