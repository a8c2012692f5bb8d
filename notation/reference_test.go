package notation_test

import (
	"math/big"
	"slices"
	"strings"

	"primrose/api"
)

// The tests read a text in their own way: token by token, with a stack instead of
// functions that call each other, and with their own polynomials.

// What has been read last.
const (
	start  = iota // the beginning of an expression
	sign          // a sign or "*"
	number        // the first digits of a number
	slash         // "/"
	base          // a name
	closed        // ")"
	caret         // "^"
	done          // the last part of a factor
)

// frame is an expression that is being read.
type frame struct {
	total, product sum // product is nil at the beginning of a term
	minus          bool
}

type reader struct {
	names  []string
	stack  []frame
	state  int
	factor sum
	bound  int // the greatest exponent that may follow
	paren  bool
}

// reference is Parse of a valid ring.
func reference(names []string, s string) (sum, api.Errno) {
	x := reader{names: names, stack: []frame{{total: sum{}}}}
	for _, token := range append(tokens(s), "") {
		if e := x.read(token); e != api.OK {
			return nil, e
		}
	}
	return x.factor, api.OK
}

func isDigit(c byte) bool {
	return strings.IndexByte("0123456789", c) >= 0
}

func isLetter(c byte) bool {
	return strings.IndexByte("abcdefghijklmnopqrstuvwxyzABCDEFGHIJKLMNOPQRSTUVWXYZ", c) >= 0
}

// tokens are runs of digits, names, and other bytes but spaces.
func tokens(s string) []string {
	var all []string
	for i := 0; i < len(s); {
		j := i + 1
		switch {
		case isDigit(s[i]):
			for j < len(s) && isDigit(s[j]) {
				j++
			}
		case isLetter(s[i]):
			for j < len(s) && (isLetter(s[j]) || isDigit(s[j])) {
				j++
			}
		}
		if s[i] != ' ' {
			all = append(all, s[i:j])
		}
		i = j
	}
	return all
}

// read takes the next token; "" is the end.
func (x *reader) read(token string) api.Errno {
	c := byte(0)
	if token != "" {
		c = token[0]
	}
	switch {
	case x.state == start && c == '-' && token != "":
		x.stack[len(x.stack)-1].minus = true
		x.state = sign
		return api.OK
	case x.state == start || x.state == sign:
		return x.begin(token, c)
	case x.state == slash || x.state == caret:
		return x.finish(token)
	case x.state == number && c == '/':
		x.state = slash
		return api.OK
	case (x.state == base || x.state == closed) && c == '^':
		x.bound, x.paren = limit, x.state == closed
		if x.paren {
			x.bound = 64
		}
		x.state = caret
		return api.OK
	}
	return x.after(token)
}

// begin reads the first token of a factor.
func (x *reader) begin(token string, c byte) api.Errno {
	switch {
	case token == "":
		return api.ErrForm
	case c == '(':
		if len(x.stack) > 50 {
			return api.ErrLong
		}
		x.stack = append(x.stack, frame{total: sum{}})
		x.state = start
	case isLetter(c):
		i := slices.Index(x.names, token)
		if i < 0 {
			return api.ErrName
		}
		var k key
		k[i] = 1
		x.factor = sum{k: big.NewRat(1, 1)}
		x.state = base
	default:
		n, e := naturalOf(token)
		if e != api.OK {
			return e
		}
		x.factor = sum{}
		x.factor.add(key{}, new(big.Rat).SetInt(n))
		x.state = number
	}
	return api.OK
}

func naturalOf(token string) (*big.Int, api.Errno) {
	switch {
	case token == "" || !isDigit(token[0]) || token[0] == '0' && token != "0":
		return nil, api.ErrForm
	case len(token) > 10000:
		return nil, api.ErrLong
	}
	n, _ := new(big.Int).SetString(token, 10)
	return n, api.OK
}

// finish reads a denominator or an exponent.
func (x *reader) finish(token string) api.Errno {
	n, e := naturalOf(token)
	switch {
	case e != api.OK:
		return e
	case x.state == slash && n.Sign() == 0:
		return api.ErrZero
	case x.state == slash:
		inverse := new(big.Rat).SetFrac(big.NewInt(1), n)
		x.factor, _ = x.factor.times(sum{key{}: inverse})
	case n.Cmp(big.NewInt(int64(x.bound))) > 0:
		return api.ErrLong
	default:
		if !x.raise(int(n.Int64())) {
			return api.ErrLong
		}
	}
	x.state = done
	return api.OK
}

// raise takes the factor to a power.
func (x *reader) raise(n int) bool {
	if !x.paren {
		power := sum{}
		for k, c := range x.factor {
			for i := range k {
				k[i] *= n
			}
			power[k] = c
		}
		x.factor = power
		return true
	}
	power, ok := sum{key{}: big.NewRat(1, 1)}, true
	for i := 0; i < n && ok; i++ {
		power, ok = power.times(x.factor)
	}
	x.factor = power
	return ok
}

// after reads what follows a whole factor.
func (x *reader) after(token string) api.Errno {
	f := &x.stack[len(x.stack)-1]
	if f.product != nil {
		product, ok := f.product.times(x.factor)
		if !ok {
			return api.ErrLong
		}
		x.factor = product
	}
	if token == "*" {
		f.product = x.factor
		x.state = sign
		return api.OK
	}
	if !x.mayFollow(token) {
		return api.ErrForm
	}
	times := int64(1)
	if f.minus {
		times = -1
	}
	f.total.addAll(x.factor, times)
	f.product, f.minus = nil, token == "-"
	x.state = sign
	if token == ")" || token == "" {
		x.factor = f.total
		x.stack = x.stack[:len(x.stack)-1]
		x.state = closed
	}
	return api.OK
}

// mayFollow tells whether the token can follow a whole term.
func (x *reader) mayFollow(token string) bool {
	switch token {
	case "+", "-":
		return true
	case ")":
		return len(x.stack) > 1
	}
	return token == "" && len(x.stack) == 1
}
