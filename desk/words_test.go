package desk_test

import (
	"fmt"
	"regexp"
	"slices"
	"strconv"
	"strings"

	"primrose/api"
	"primrose/basis"
	"primrose/ideal"
	"primrose/notation"
	"primrose/primary"
	"primrose/stair"
)

// The chapter's words, done once more: the form of a line is a pattern, and what is behind
// it calls the layers below.

// A reader is the state of the interpreter.
type reader struct {
	r     api.Ring
	fuel  int
	names []string // of the ideals
	f     [][][]api.Term
}

// An action is what a line of a form does: the parts that the pattern tells are given, the
// output or an error is returned.
type action func(d *reader, parts []string) (string, api.Errno)

// A form is a row of the chapter's table.
type form struct {
	pattern *regexp.Regexp
	do      action
}

const (
	anyWord = `([^ ]*)`
	anyText = `((?s:.*))`
	aNumber = `(0|[1-9][0-9]{0,6})`
	aName   = `([A-Za-z][A-Za-z0-9]{0,7})`
)

func formOf(pattern string, do action) form {
	return form{regexp.MustCompile(`\A` + pattern + `\z`), do}
}

// formsOfLines are the rows of the table.
func formsOfLines() []form {
	return []form{
		formOf(`ring `+anyWord+`((?: [^ ]*)*)`, (*reader).ring),
		formOf(`fuel `+aNumber, (*reader).setFuel),
		formOf(`ideal `+aName+` `+anyText, (*reader).ideal),
		formOf(`basis `+anyWord, ofIdeals(ofOne(basis.Reduced))),
		formOf(`radical `+anyWord, ofIdeals(ofOne(primary.Radical))),
		formOf(`hull `+anyWord, ofIdeals(ofOne(primary.Hull))),
		formOf(`dim `+anyWord, ofIdeals((*reader).dim)),
		formOf(`primary `+anyWord, ofIdeals((*reader).components)),
		formOf(`primes `+anyWord, ofIdeals((*reader).primes)),
		formOf(`least `+anyWord, ofIdeals((*reader).least)),
		formOf(`sum `+anyWord+` `+anyWord, ofIdeals(ofTwo(ideal.Sum))),
		formOf(`product `+anyWord+` `+anyWord, ofIdeals(ofTwo(ideal.Product))),
		formOf(`meet `+anyWord+` `+anyWord, ofIdeals(ofTwo(ideal.Meet))),
		formOf(`quotient `+anyWord+` `+anyWord, ofIdeals(ofTwo(ideal.Quotient))),
		formOf(`subset `+anyWord+` `+anyWord, ofIdeals((*reader).subset)),
		formOf(`eliminate `+anyWord+` `+aNumber, (*reader).eliminate),
		formOf(`member `+anyWord+` `+anyText, (*reader).member),
		formOf(`saturate `+anyWord+` `+anyText, (*reader).saturate),
	}
}

var forms = formsOfLines()

// newReader is the interpreter ahead of all lines.
func newReader() *reader {
	return &reader{r: api.Ring{Names: []string{"x", "y", "z"}, Order: api.Lex}, fuel: 1000}
}

// byWords are the outputs of the lines of a script, or ErrLong.
func byWords(script string) ([]string, api.Errno) {
	lines := strings.SplitAfter(script, "\n")
	if lines[len(lines)-1] == "" {
		lines = lines[:len(lines)-1]
	}
	if len(script) >= 4001 || len(lines) >= 101 {
		return nil, api.ErrLong
	}
	d, all := newReader(), []string{}
	for _, line := range lines {
		all = append(all, d.read(strings.TrimSuffix(line, "\n")))
	}
	return all, api.OK
}

func (d *reader) read(line string) string {
	for _, x := range forms {
		if parts := x.pattern.FindStringSubmatch(line); parts != nil {
			out, e := x.do(d, parts[1:])
			if e != api.OK {
				return fault(e)
			}
			return out
		}
	}
	return fault(api.ErrLine)
}

func (d *reader) ring(parts []string) (string, api.Errno) {
	order := slices.Index([]string{"lex", "grlex", "grevlex"}, parts[0]) // as numbered in DOC.md
	names := strings.Split(parts[1], " ")[1:]
	if order < 0 || len(names) < 1 || len(names) > 6 {
		return "", api.ErrRing
	}
	valid := regexp.MustCompile(`\A` + aName + `\z`)
	for i, name := range names {
		if !valid.MatchString(name) || slices.Contains(names[:i], name) {
			return "", api.ErrRing
		}
	}
	*d = reader{r: api.Ring{Names: names, Order: order}, fuel: d.fuel}
	return "ok\n", api.OK
}

func (d *reader) setFuel(parts []string) (string, api.Errno) {
	fuel, _ := strconv.Atoi(parts[0])
	if fuel > 1<<20 {
		return "", api.ErrArg
	}
	d.fuel = fuel
	return "ok\n", api.OK
}

func (d *reader) ideal(parts []string) (string, api.Errno) {
	if slices.Contains(d.names, parts[0]) || len(d.names) >= 20 {
		return "", api.ErrGiven
	}
	f := [][]api.Term{}
	for rest, more := parts[1], true; more; {
		var text string
		text, rest, more = strings.Cut(rest, ",")
		p, e := notation.Parse(d.r, text)
		if e != api.OK {
			return "", e
		}
		f = append(f, p)
	}
	d.names, d.f = append(d.names, parts[0]), append(d.f, f)
	return "ok\n", api.OK
}

// named are the ideals with names.
func (d *reader) named(names []string) (all [][][]api.Term, e api.Errno) {
	for _, name := range names {
		i := slices.Index(d.names, name)
		if i < 0 {
			return nil, api.ErrGiven
		}
		all = append(all, d.f[i])
	}
	return all, api.OK
}

// basis is the output of a basis.
func (d *reader) basis(g [][]api.Term) string {
	out := ""
	for _, p := range g {
		out += fmt.Sprintln("", printed(d.r, p))
	}
	return out + "ok\n"
}

// ofIdeals is an action that is given nothing but names.
func ofIdeals(do func(d *reader, f [][][]api.Term) (string, api.Errno)) action {
	return func(d *reader, parts []string) (string, api.Errno) {
		f, e := d.named(parts)
		if e != api.OK {
			return "", e
		}
		return do(d, f)
	}
}

// ofOne and ofTwo output the basis that a call returns for one ideal and for two.
func ofOne(call func(api.Ring, [][]api.Term, int) ([][]api.Term, int, api.Errno)) func(*reader, [][][]api.Term) (string, api.Errno) {
	return func(d *reader, f [][][]api.Term) (string, api.Errno) {
		g, _, e := call(d.r, f[0], d.fuel)
		return d.basis(g), e
	}
}

func ofTwo(call func(r api.Ring, f, h [][]api.Term, fuel int) ([][]api.Term, int, api.Errno)) func(*reader, [][][]api.Term) (string, api.Errno) {
	return func(d *reader, f [][][]api.Term) (string, api.Errno) {
		g, _, e := call(d.r, f[0], f[1], d.fuel)
		return d.basis(g), e
	}
}

func (d *reader) dim(f [][][]api.Term) (string, api.Errno) {
	n, _, e := stair.Dim(d.r, f[0], d.fuel)
	return fmt.Sprintln(n), e
}

func (d *reader) components(f [][][]api.Term) (string, api.Errno) {
	l, _, e := primary.Decompose(d.r, f[0], d.fuel)
	out := ""
	for _, x := range l {
		out += "component\n" + d.basis(x.Q) + "prime\n" + d.basis(x.P)
	}
	return out + "ok\n", e
}

func (d *reader) primes(f [][][]api.Term) (string, api.Errno) {
	l, _, e := primary.Primes(d.r, f[0], false, d.fuel)
	return d.listed(l), e
}

func (d *reader) least(f [][][]api.Term) (string, api.Errno) {
	l, _, e := primary.Primes(d.r, f[0], true, d.fuel)
	return d.listed(l), e
}

func (d *reader) listed(l [][][]api.Term) string {
	out := ""
	for _, p := range l {
		out += "prime\n" + d.basis(p)
	}
	return out + "ok\n"
}

// whether is the output of an answer.
func whether(is bool, e api.Errno) (string, api.Errno) {
	return map[bool]string{true: "yes\n", false: "no\n"}[is], e
}

func (d *reader) subset(f [][][]api.Term) (string, api.Errno) {
	is, _, e := ideal.Subset(d.r, f[0], f[1], d.fuel)
	return whether(is, e)
}

func (d *reader) eliminate(parts []string) (string, api.Errno) {
	f, e := d.named(parts[:1])
	if e != api.OK {
		return "", e
	}
	k, _ := strconv.Atoi(parts[1])
	g, _, e := ideal.Eliminate(d.r, f[0], k, d.fuel)
	return d.basis(g), e
}

// withPolynomial are the ideal and the polynomial of a line with a name and a text.
func (d *reader) withPolynomial(parts []string) (f [][]api.Term, p []api.Term, e api.Errno) {
	l, e := d.named(parts[:1])
	if e != api.OK {
		return nil, nil, e
	}
	p, e = notation.Parse(d.r, parts[1])
	return l[0], p, e
}

func (d *reader) member(parts []string) (string, api.Errno) {
	f, p, e := d.withPolynomial(parts)
	if e != api.OK {
		return "", e
	}
	is, _, e := ideal.Member(d.r, p, f, d.fuel)
	return whether(is, e)
}

func (d *reader) saturate(parts []string) (string, api.Errno) {
	f, p, e := d.withPolynomial(parts)
	if e != api.OK {
		return "", e
	}
	g, s, _, e := ideal.Saturate(d.r, f, p, d.fuel)
	return fmt.Sprintln(s) + d.basis(g), e
}
