package fraction

import (
	"primrose/api"
	"primrose/nat"
	"primrose/whole"
)

// Neg returns the negative of x (C4).
func Neg(x api.Rat) api.Rat {
	x.Num.Neg = !x.Num.Neg
	return Plain(x)
}

// Add returns the sum (C4).
func Add(x, y api.Rat) api.Rat {
	a, b := reduce(x.Num, x.Den), reduce(y.Num, y.Den)
	return api.Rat(a.plus(b))
}

// Sub returns the difference x - y (C4).
func Sub(x, y api.Rat) api.Rat {
	y.Num.Neg = !y.Num.Neg
	return Add(x, y)
}

// Mul returns the product (C4).
func Mul(x, y api.Rat) api.Rat {
	// A Den of 0 makes that of the product 0 too, and so the product.
	return api.Rat(reduce(whole.Mul(x.Num, y.Num), nat.Mul(x.Den, y.Den)))
}

// Div returns x divided by y, or ErrZero if y is 0 (C5).
func Div(x, y api.Rat) (api.Rat, api.Errno) {
	if Sign(y) == 0 {
		return api.Rat{}, api.ErrZero
	}
	x.Num.Neg = x.Num.Neg != y.Num.Neg
	return api.Rat(reduce(times(x.Num, y.Den), nat.Mul(x.Den, y.Num.Mag))), api.OK
}
