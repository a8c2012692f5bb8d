package desk_test

import (
	"fmt"
	"strings"
	"testing"

	"primrose/api"
	"primrose/desk"
	"primrose/notation"
)

// script makes a script of lines, each of which ends.
func script(lines ...string) string {
	out := ""
	for _, line := range lines {
		out += line + "\n"
	}
	return out
}

// ran is the output of a script that has one.
func ran(t *testing.T, s string) string {
	t.Helper()
	out, e := desk.Run(s)
	if e != api.OK {
		t.Fatalf("%q: error %d", s, e)
	}
	return out
}

// expect expects the output of a script.
func expect(t *testing.T, promise, s, want string) {
	t.Helper()
	if out, e := desk.Run(s); out != want || e != api.OK {
		t.Errorf("%s: %q:\n%swith error %d, not\n%s", promise, s, out, e, want)
	}
}

// expectLong expects that a script is too great.
func expectLong(t *testing.T, s string) {
	t.Helper()
	if out, e := desk.Run(s); out != "" || e != api.ErrLong {
		t.Errorf("V1: %d bytes, %d ends of lines: %q with error %d, not %d", len(s), strings.Count(s, "\n"), out, e, api.ErrLong)
	}
}

// A said is a line and the lines that it outputs.
type said struct {
	line string
	out  []string
}

// say makes a said of a line and its output, the lines of which have bars between them.
func say(line, out string) said {
	return said{line, strings.Split(out, "|")}
}

// expectTalk expects the output of each line.
func expectTalk(t *testing.T, promise string, talk ...said) {
	t.Helper()
	var lines, want []string
	for _, x := range talk {
		lines, want = append(lines, x.line), append(want, x.out...)
		expect(t, promise, script(lines...), script(want...))
		if t.Failed() {
			return
		}
	}
}

// expectEach expects the output of each of some lines, each of them behind the same ones.
func expectEach(t *testing.T, promise string, before []string, lines ...said) {
	t.Helper()
	start := ran(t, script(before...))
	for _, x := range lines {
		expect(t, promise, script(before...)+script(x.line), start+script(x.out...))
	}
}

// polynomials are those of texts.
func polynomials(t *testing.T, r api.Ring, texts ...string) [][]api.Term {
	t.Helper()
	var f [][]api.Term
	for _, text := range texts {
		p, e := notation.Parse(r, text)
		if e != api.OK {
			t.Fatalf("%q: error %d", text, e)
		}
		f = append(f, p)
	}
	return f
}

// printed is a polynomial's text.
func printed(r api.Ring, p []api.Term) string {
	text, e := notation.Print(r, p)
	if e != api.OK {
		panic(fmt.Sprintf("error %d", e))
	}
	return text
}

// fault is the output of an error.
func fault(e api.Errno) string {
	return fmt.Sprintf("error %d\n", e)
}

// noise makes numbers that look like chance, the same in each run.
type noise uint64

func (s *noise) below(n int) int {
	*s = *s*6364136223846793005 + 1442695040888963407
	return int(*s>>33) % n
}

func (s *noise) of(l ...string) string {
	return l[s.below(len(l))]
}
