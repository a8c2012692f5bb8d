package desk_test

import (
	"strings"
	"testing"

	"primrose/api"
	"primrose/fraction"
	"primrose/mono"
	"primrose/poly"
)

// Promise P5 of the whole program: what the calls return for polynomials is what the desk
// outputs for their texts.

// polynomial makes one of at most so many terms, with exponents below high.
func (s *noise) polynomial(r api.Ring, terms, high int) []api.Term {
	var p []api.Term
	for range s.below(terms + 1) {
		e := make([]int, len(r.Names))
		e[s.below(len(e))] += s.below(high)
		e[s.below(len(e))] += s.below(2)
		c := fraction.Of(s.below(9) - 4)
		if s.below(3) == 0 {
			c, _ = fraction.Div(c, fraction.Of(2+s.below(3)))
		}
		p = append(p, api.Term{C: c, E: e})
	}
	p, e := poly.Norm(r, p)
	if e != api.OK {
		panic(e)
	}
	return p
}

// spelled is a text of a polynomial, which need not be the one that is printed: terms are
// in another order, powers are products, spaces stand where they may.
func (s *noise) spelled(r api.Ring, p []api.Term) string {
	if len(p) == 0 || s.below(3) == 0 {
		return printed(r, p)
	}
	var terms []string
	for _, t := range p {
		text := "(" + fraction.Text(t.C) + ")"
		for i, n := range t.E {
			if s.below(2) == 0 {
				text += s.of("*", " * ", "* ") + r.Names[i] + "^" + string(rune('0'+n))
				continue
			}
			text += strings.Repeat(s.of("*", " *")+r.Names[i], n)
		}
		at := s.below(len(terms) + 1)
		terms = append(terms[:at], append([]string{text}, terms[at:]...)...)
	}
	return s.of("", " ") + strings.Join(terms, s.of("+", " + ", "  +")) + s.of("", " ")
}

// spelledAll are the texts of polynomials, with commas between them.
func (s *noise) spelledAll(r api.Ring, f [][]api.Term) string {
	var texts []string
	for _, p := range f {
		texts = append(texts, s.spelled(r, p))
	}
	return strings.Join(texts, s.of(",", ", ", " ,"))
}

// anyRing makes a ring that the desk can have.
func (s *noise) anyRing() api.Ring {
	names := strings.Split("x Y z2 tt t abcdefgh", " ")[:1+s.below(3)+s.below(2)*s.below(4)]
	for i := range names {
		other := s.below(i + 1)
		names[i], names[other] = names[other], names[i]
	}
	return api.Ring{Names: names, Order: s.below(3)}
}

func TestP5(t *testing.T) {
	t.Parallel()
	s, errors, answers := noise(20), 0, 0
	for range 600 {
		r := s.anyRing()
		if mono.Check(r) != api.OK {
			t.Fatal(r)
		}
		f, h, p := [][]api.Term{s.polynomial(r, 3, 3), s.polynomial(r, 2, 3)}, [][]api.Term{s.polynomial(r, 2, 2)}, s.polynomial(r, 2, 2)
		d := reader{r: r, fuel: 200, names: []string{"I", "J"}, f: [][][]api.Term{f, h}}
		lines := []string{"ring " + []string{"lex", "grlex", "grevlex"}[r.Order] + " " + strings.Join(r.Names, " "), "fuel 200", "ideal I " + s.spelledAll(r, f), "ideal J " + s.spelledAll(r, h)}
		want := "ok\nok\nok\nok\n"
		lines = append(lines, questions()[:14]...)
		lines = append(lines, "subset J I", "quotient J I", "sum J J", "radical J", "primary J")
		for _, line := range lines[4:] {
			want += d.read(line)
		}
		d.names, d.f = append(d.names, "P"), append(d.f, [][]api.Term{p})
		for _, command := range []string{"member", "saturate"} {
			lines = append(lines, command+" I "+s.spelled(r, p), command+" J "+s.spelled(r, p))
			want += d.read(command+" I "+printed(r, p)) + d.read(command+" J "+printed(r, p))
		}
		errors += strings.Count(want, "error")
		answers += len(lines) - strings.Count(want, "error")
		expect(t, "P5", script(lines...), want)
		if t.Failed() {
			return
		}
	}
	if errors < 400 || answers < 12000 {
		t.Errorf("only %d errors, and %d answers", errors, answers)
	}
}

// The whole at the desk: examples of DOC.md, and of ideals that are known otherwise.
func TestP5Examples(t *testing.T) {
	t.Parallel()
	expectTalk(t, "P5",
		say("ring lex x y", "ok"), say("ideal I x^2, x*y", "ok"), say("primes I", "prime| x|ok|prime| y| x|ok|ok"), say("radical I", " x|ok"), say("hull I", " x|ok"),
		say("ideal J x^2 - 1, y", "ok"), say("primary J", "component| y| x - 1|ok|prime| y| x - 1|ok|component| y| x + 1|ok|prime| y| x + 1|ok|ok"),
		say("ideal K x^4 + 4", "ok"), say("primes K", "prime| x^2 - 2*x + 2|ok|prime| x^2 + 2*x + 2|ok|ok"))
	// the twisted cubic, and a line that meets it
	expectTalk(t, "P5",
		say("ring grevlex x y z w", "ok"), say("fuel 20000", "ok"), say("ideal C x*z - y^2, y*w - z^2, x*w - y*z", "ok"), say("dim C", "2"), say("primary C", "component| z^2 - y*w| y*z - x*w| y^2 - x*z|ok|prime| z^2 - y*w| y*z - x*w| y^2 - x*z|ok|ok"),
		say("ideal L y, z", "ok"), say("ideal D x*z - y^2, y*w - z^2", "ok"), say("meet C L", " z^2 - y*w| y^2 - x*z|ok"), say("quotient D L", " z^2 - y*w| y*z - x*w| y^2 - x*z|ok"), say("subset D C", "yes"), say("subset C D", "no"), say("least D", "prime| z| y|ok|prime| z^2 - y*w| y*z - x*w| y^2 - x*z|ok|ok"), say("saturate D x", "0| z^2 - y*w| y^2 - x*z|ok"), say("saturate D y", "1| z^2 - y*w| y*z - x*w| y^2 - x*z|ok"))
	// two circles that touch
	expectTalk(t, "P5",
		say("ring lex x y", "ok"), say("fuel 20000", "ok"), say("ideal A x^2 + y^2 - 1, (x - 2)^2 + y^2 - 1", "ok"), say("basis A", " y^2| x - 1|ok"), say("dim A", "0"), say("radical A", " y| x - 1|ok"), say("hull A", " y^2| x - 1|ok"), say("primary A", "component| y^2| x - 1|ok|prime| y| x - 1|ok|ok"), say("eliminate A 1", " y^2|ok"))
}
