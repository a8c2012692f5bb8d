package fraction

import (
	"strings"

	"primrose/api"
	"primrose/nat"
	"primrose/whole"
)

const slash = "/"

// Text returns the text of the numerator and, unless the denominator is 1, a
// slash and the text of the denominator (C6).
func Text(x api.Rat) string {
	x = Plain(x)
	num := whole.Text(x.Num)
	if isOne(x.Den) {
		return num
	}
	return num + slash + nat.Text(x.Den)
}

// Parse returns the fraction that s says; the error of whole's Parse for what
// stands before the first slash; that of nat's Parse for what stands after it;
// or ErrZero if that is 0 (C6).
func Parse(s string) (api.Rat, api.Errno) {
	before, after, found := strings.Cut(s, slash)
	num, e := whole.Parse(before)
	if e != api.OK {
		return api.Rat{}, e
	}
	if !found {
		return api.Rat{Num: num, Den: nat.Of(1)}, api.OK
	}
	den, e := nat.Parse(after)
	if e != api.OK {
		return api.Rat{}, e
	}
	return Make(num, api.Int{Mag: den})
}
