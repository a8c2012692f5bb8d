package desk_test

import (
	"bytes"
	"fmt"
	"slices"
	"strings"
	"testing"

	"primrose/api"
	"primrose/desk"
)

// A writer makes lines. Most of them are right: it knows which names are likely, and how
// many ideals may be missing.
type writer struct {
	noise
	names, variables []string
	missing          int
}

func (w *writer) name() string {
	if w.below(12) == 0 {
		return w.of("Q", "", "x", "1", "i", "I\t", "abcdefghi", "basis")
	}
	return w.of(w.names...)
}

// term makes a term's text, perhaps with a fraction and a sign.
func (w *writer) term() string {
	text := w.of("", "", "", "-", "2*", "-3*", "1/2*")
	if w.below(3) == 0 {
		text += w.of(w.variables...) + w.of("", "", "^2", "^0") + "*"
	}
	return text + w.of("1", w.of(w.variables...), w.of(w.variables...), w.of(w.variables...))
}

func (w *writer) text() string {
	if w.below(15) == 0 {
		return w.of("", " ", "x +", "1/0", "q", "x y", "x^65537", "(x)^65", "x\r", "\xff", "(x", "007", "x,")
	}
	text := w.term()
	for range w.below(6) / 3 {
		text += w.of(" + ", "+", " +") + strings.TrimPrefix(w.term(), "-")
	}
	if w.below(8) == 0 {
		return "(" + text + ")" + w.of("^2", "*2", "*(x - 1)")
	}
	return text
}

func (w *writer) texts() string {
	text := w.text()
	for range w.below(3) {
		text += w.of(",", ", ", " , ") + w.text()
	}
	return text
}

func (w *writer) numeral() string {
	return w.of("0", "1", "3", "10", "40", "100", "200", "1048577", "07", "", "12345678", "-1", "x", "9999999")
}

// newRing makes a line with a ring; its variables are likely in the lines behind it.
func (w *writer) newRing() string {
	if w.below(8) == 0 {
		return w.of("ring", "ring lex", "ring block x y", "ring lex x x", "ring ", "ring grlex  x", "ring foo x", "ring lex x y z u v w t", "ring grevlex 1")
	}
	w.variables = strings.Split("xyzuvw", "")[:1+w.below(3)+w.below(2)*w.below(4)]
	for i := range w.variables {
		other := w.below(i + 1)
		w.variables[i], w.variables[other] = w.variables[other], w.variables[i]
	}
	w.missing = len(w.names)
	return "ring " + w.of("lex", "grlex", "grevlex") + " " + strings.Join(w.variables, " ")
}

// state makes a line that is not only a question.
func (w *writer) state() string {
	if w.missing > 0 {
		w.missing--
		return "ideal " + w.names[w.missing] + " " + w.texts()
	}
	switch w.below(8) {
	case 0, 1:
		return w.newRing()
	case 2, 3, 4:
		return "fuel " + w.numeral()
	}
	return "ideal " + w.name() + " " + w.texts()
}

func (w *writer) question() string {
	switch w.below(16) {
	case 0:
		return w.of("", " ", "x", "basis", "help", "dim  I", "sum I", "\x00", "BASIS I", "member I", "eliminate I", "ok", "primary I ", "quit", "saturate", "subset I J K")
	case 1, 2, 3, 4, 5, 6:
		return w.of("basis", "radical", "hull", "dim", "primary", "primes", "least") + " " + w.name()
	case 7, 8, 9, 10, 11:
		return w.of("sum", "product", "meet", "quotient", "subset") + " " + w.name() + " " + w.name()
	case 12:
		return "eliminate " + w.name() + " " + w.of(w.numeral(), "1", "2", "0")
	}
	return w.of("member", "saturate") + " " + w.name() + " " + w.text()
}

// lines make a script.
func (w *writer) lines(n int) (all []string) {
	w.names, w.variables = []string{"I", "J", "K", "a1"}[:2+w.below(3)], []string{"x", "y", "z"}
	all, w.missing = append(all, w.of("fuel 200", "fuel 200", "fuel 500", w.newRing())), len(w.names)
	for range n - 1 {
		if w.missing > 0 || w.below(5) == 0 {
			all = append(all, w.state())
		} else {
			all = append(all, w.question())
		}
	}
	return all
}

// expectWords expects of a script what the chapter's words make of it, and returns the
// outputs of its lines.
func expectWords(t *testing.T, s string) []string {
	t.Helper()
	outs, e := byWords(s)
	want := strings.Join(outs, "")
	if out, got := desk.Run(s); got != e || out != want {
		t.Fatalf("V1: %q:\n%swith error %d, not\n%swith error %d", s, out, got, want, e)
	}
	return outs
}

// Scripts of any lines output what the calls of the layers below return.
func TestAnyLines(t *testing.T) {
	t.Parallel()
	w, errors, rest := writer{noise: 1}, map[string]int{}, 0
	for range 2500 {
		for _, out := range expectWords(t, script(w.lines(5+w.below(20))...)) {
			if strings.HasPrefix(out, "error") {
				errors[out]++
			} else if out != "ok\n" {
				rest++
			}
		}
	}
	for _, e := range []api.Errno{api.ErrArg, api.ErrLong, api.ErrFuel, api.ErrZero, api.ErrRing, api.ErrForm, api.ErrName, api.ErrLine, api.ErrGiven} {
		if errors[fault(e)] < 10 {
			t.Errorf("only %d times error %d", errors[fault(e)], e)
		}
	}
	if rest < 9000 || len(errors) != 9 {
		t.Errorf("only %d answers, and %v", rest, errors)
	}
}

// changed makes some bytes of a text others: a byte is left out, put in or replaced.
func (w *writer) changed(text string) string {
	b := []byte(text)
	for range 1 + w.below(3) {
		at := w.below(len(b) + 1)
		more := []byte(w.of(" ", " ", " ", "\n", "\n", ",", "\t", "\r", "\x00", "\x80", "\xff", "0", "1", "I", "x", "L", "-", string(rune(w.below(300)))))
		switch w.below(3) {
		case 0:
			b = slices.Insert(b, at, more...)
		case 1:
			b = slices.Replace(b, at, min(at+1, len(b)), more...)
		default:
			b = slices.Delete(b, at, min(at+1, len(b)))
		}
	}
	return string(b)
}

// Also scripts that are nearly right, and any bytes.
func TestAnyBytes(t *testing.T) {
	t.Parallel()
	w := writer{noise: 2}
	for range 2000 {
		s := script(w.lines(4 + w.below(8))...)
		for range 4 {
			s = w.changed(s)
			expectWords(t, s)
		}
	}
	for size := range 300 {
		b := make([]byte, size)
		for i := range b {
			b[i] = byte(w.below(256))
			if w.below(4) == 0 {
				b[i] = " \n,Ix12"[w.below(7)]
			}
		}
		expectWords(t, string(b))
	}
}

// Each byte at each place of lines with each command.
func TestEachByte(t *testing.T) {
	t.Parallel()
	before := script("ring lex x y", "ideal I x*y, x^2", "ideal J y")
	for _, line := range append([]string{"ring grlex x y", "fuel 12", "ideal K x, y"}, questions()...) {
		for at := range len(line) + 1 {
			for b := range 256 {
				one := string([]byte{byte(b)})
				expectWords(t, before+line[:at]+one+line[at:]+"\nbasis I\nideal L y")
				if at < len(line) && b%3 == at%3 {
					expectWords(t, before+line[:at]+one+line[at+1:])
				}
			}
		}
		for at := range line {
			expectWords(t, before+line[:at]+line[at+1:]+"\ndim K")
			expectWords(t, before+line[:at])
		}
	}
}

// Commands behind which there are any few words.
func TestAnyWords(t *testing.T) {
	t.Parallel()
	before := script("ring lex x y", "ideal I x*y, x^2", "ideal J y")
	words := []string{"", "I", "J", "L", "1", "3", "x", "lex"}
	for _, command := range strings.Fields("ring fuel ideal basis radical hull dim primary primes least sum product meet quotient subset eliminate member saturate none") {
		rests := []string{""}
		for range 4 {
			for _, rest := range rests {
				expectWords(t, before+command+rest)
			}
			var longer []string
			for _, rest := range rests {
				for _, word := range words {
					longer = append(longer, rest+" "+word)
				}
			}
			rests = longer
		}
	}
}

// The same script has the same output, whatever was run before it, and however many are run
// at a time.
func TestNoMemory(t *testing.T) {
	t.Parallel()
	w := writer{noise: 3}
	var scripts, outs []string
	for i := range 40 {
		s := script(w.lines(12)...)
		if i%4 == 0 {
			s = script("ideal I x^2, x*y", "fuel 30", "basis I", "ring lex x", "dim I")
		}
		scripts, outs = append(scripts, s), append(outs, ran(t, s))
	}
	done := make(chan string)
	for k := range 8 {
		go func() {
			wrong := ""
			for i := range scripts {
				i = (i*(2*k+1) + k) % len(scripts)
				given := []byte(scripts[i])
				if out, e := desk.Run(string(given)); out != outs[i] || e != api.OK || !bytes.Equal(given, []byte(scripts[i])) {
					wrong = fmt.Sprintf("%q: %q with error %d, not %q", scripts[i], out, e, outs[i])
				}
			}
			done <- wrong
		}()
	}
	for range 8 {
		if wrong := <-done; wrong != "" {
			t.Error(wrong)
		}
	}
}
