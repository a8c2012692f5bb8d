package prime

// Add returns the residue of the sum, or 0 if p is not a prime (E3).
func Add(a, b, p int) int {
	if !Is(p) {
		return 0
	}
	return residue(residue(a, p)+residue(b, p), p)
}

// Mul returns the residue of the product, or 0 if p is not a prime (E3).
func Mul(a, b, p int) int {
	if !Is(p) {
		return 0
	}
	return product(residue(a, p), residue(b, p), p)
}

// Pow returns the residue of a to the power of n, or 0 if p is not a prime or
// n is negative (E4).
func Pow(a, n, p int) int {
	if n < 0 || !Is(p) {
		return 0
	}
	return power(residue(a, p), n, p)
}

// Inv returns the residue whose product with a has the residue 1, or 0 if p is
// not a prime or the residue of a is 0 (E4).
func Inv(a, p int) int {
	if !Is(p) {
		return 0
	}
	return inverse(residue(a, p), p)
}

// Half returns the residue of a, minus p if it is greater than p / 2, or 0 if p
// is not a prime (E6).
func Half(a, p int) int {
	if !Is(p) {
		return 0
	}
	r := residue(a, p)
	if r > p/2 {
		return r - p
	}
	return r
}

// residue returns the residue of a modulo p, which is positive.
func residue(a, p int) int {
	r := a % p
	if r < 0 {
		return r + p
	}
	return r
}

// product multiplies two residues: 62 digits hold their product, as a prime has
// at most 31.
func product(a, b, p int) int {
	return a * b % p
}

// power squares as often as n has digits, so that great powers end too.
func power(a, n, p int) int {
	result := 1
	for ; n > 0; n /= 2 {
		if n%2 == 1 {
			result = product(result, a, p)
		}
		a = product(a, a, p)
	}
	return result
}

// inverse divides by a: the power p - 1 of a residue that is not 0 is 1.
func inverse(a, p int) int {
	if a == 0 { // 0 has the power 1 for p = 2
		return 0
	}
	return power(a, p-2, p)
}
