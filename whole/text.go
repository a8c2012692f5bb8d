package whole

import (
	"strings"

	"primrose/api"
	"primrose/nat"
)

const minus = "-"

// Text returns the decimal digits of a, preceded by a minus sign if a is
// negative (B7).
func Text(a api.Int) string {
	digits := nat.Text(a.Mag)
	if Sign(a) < 0 {
		return minus + digits
	}
	return digits
}

// Parse returns the integer whose text is s; ErrText if there is none; or
// ErrLong if s has more than MaxDigits digits (B7).
func Parse(s string) (api.Int, api.Errno) {
	digits, neg := strings.CutPrefix(s, minus)
	mag, e := nat.Parse(digits)
	switch {
	case e != api.OK:
		return api.Int{}, e
	case neg && isZero(mag):
		return api.Int{}, api.ErrText // no integer's text is "-0"
	}
	return signed(neg, mag), api.OK
}
