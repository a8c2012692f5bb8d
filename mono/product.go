package mono

// Mul returns the product of a and b, and true; or the empty list and false if
// they have different lengths, or one of them or the product has an exponent
// that is not valid (F5).
func Mul(a, b []int) ([]int, bool) {
	return combine(a, b, func(x, y int) int { return x + y })
}

// Div returns the monomial whose product with b is a, and true; or the empty
// list and false as Mul does (F5).
func Div(a, b []int) ([]int, bool) {
	return combine(a, b, func(x, y int) int { return x - y })
}

// Lcm returns the greater exponent for each index, and true; or the empty list
// and false as Mul does (F6).
func Lcm(a, b []int) ([]int, bool) {
	return combine(a, b, func(x, y int) int { return max(x, y) })
}

// Gcd returns the smaller exponent for each index, and true; or the empty list
// and false as Mul does (F6).
func Gcd(a, b []int) ([]int, bool) {
	return combine(a, b, func(x, y int) int { return min(x, y) })
}

// combine returns what operation makes of the exponents for each index, and
// true; or the empty list and false if a, b and the result are not monomials of
// the same number of variables.
func combine(a, b []int, operation func(x, y int) int) ([]int, bool) {
	// Exponents are checked first: with others an operation might wrap round.
	if !areAlike(a, b) {
		return nil, false
	}
	result := make([]int, len(a))
	for i, x := range a {
		result[i] = operation(x, b[i])
	}
	if !areExponents(result) {
		return nil, false
	}
	return result, true
}

// areAlike tells whether a and b are monomials of the same number of variables.
func areAlike(a, b []int) bool {
	return len(a) == len(b) && areExponents(a) && areExponents(b)
}
