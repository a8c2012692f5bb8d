package notation

import (
	"strings"

	"primrose/api"
	"primrose/nat"
)

// skip reads spaces.
func (p *parser) skip() {
	p.rest = strings.TrimLeft(p.rest, " ")
}

// accept reads the mark and spaces before it, if it comes next, and tells
// whether it did.
func (p *parser) accept(mark string) bool {
	p.skip()
	rest, found := strings.CutPrefix(p.rest, mark)
	p.rest = rest
	return found
}

// expect reads the mark and spaces before it.
func (p *parser) expect(mark string) {
	if !p.accept(mark) {
		fail(api.ErrForm)
	}
}

// end reads spaces, behind which nothing may stand.
func (p *parser) end() {
	p.skip()
	if p.rest != "" {
		fail(api.ErrForm)
	}
}

// name reads a name and spaces before it, or nothing if none comes next.
func (p *parser) name() string {
	return p.run(func(i int, c rune) bool { return isLetter(c) || i > 0 && isDigit(c) })
}

// natural reads a natural number and spaces before it.
func (p *parser) natural() []uint32 {
	n, e := nat.Parse(p.run(func(i int, c rune) bool { return isDigit(c) }))
	if e == api.ErrText { // no digits at all, or leading zeros
		fail(api.ErrForm)
	}
	return sure(n, e)
}

// run reads characters, and spaces before them, as long as each may stand at
// its index.
func (p *parser) run(may func(i int, c rune) bool) string {
	p.skip()
	for i, c := range p.rest {
		if !may(i, c) {
			return p.cut(i)
		}
	}
	return p.cut(len(p.rest))
}

// cut reads so many bytes.
func (p *parser) cut(n int) string {
	text := p.rest[:n]
	p.rest = p.rest[n:]
	return text
}

// Letters and digits are those of ASCII alone, as in the names of a ring.

func isLetter(c rune) bool {
	return 'a' <= c && c <= 'z' || 'A' <= c && c <= 'Z'
}

func isDigit(c rune) bool {
	return '0' <= c && c <= '9'
}
