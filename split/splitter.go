package split

import "primrose/modular"

// splitter takes apart products of different monic irreducible polynomials of one
// degree, by random choices.
type splitter struct {
	p int
	// next returns what is tried next: a polynomial of n coefficients, and a
	// residue.
	next func(n int) (h []int, c int)
}

// newSplitter makes a splitter whose choices begin with the draws.
func newSplitter(p int, draws []int) splitter {
	count, state := 0, uint64(0)
	return splitter{p, func(n int) ([]int, int) {
		h, turn := make([]int, n), count/2
		count++
		if count%2 == 0 {
			// Each second choice is not left to chance, so that there is an end: in
			// n*p of them, all powers of x come with all residues, and one of these
			// pairs splits (see part).
			h[n-1-turn%n] = 1
			return h, turn / n % p
		}
		if turn < len(draws) {
			state ^= uint64(draws[turn])
		}
		for i := range h {
			state = state*6364136223846793005 + 1442695040888963407
			h[i] = int(state>>33) % p
		}
		return h, 0
	}}
}

// factors returns the irreducible polynomials of that degree whose product is f.
func (s splitter) factors(f []int, degree int) [][]int {
	if len(f) == 1 {
		return nil
	}
	if len(f)-1 == degree {
		return [][]int{f}
	}
	part := s.part(f, degree)
	rest := quotient(f, part, s.p)
	return append(s.factors(part, degree), s.factors(rest, degree)...)
}

// part returns a polynomial that divides f and is neither 1 nor f: f has two
// factors of that degree or more.
//
// A trace leaves a residue modulo each factor, and the traces of the powers of x
// that are less than f make up all residues modulo all factors: so one of them
// leaves unlike residues, and some c makes one of these 0 and another one not.
// Where h is left to chance, the power by (p - 1) / 2 is 1 modulo about half of
// the factors, or, for p = 2, the trace is 0 modulo half of them.
func (s splitter) part(f []int, degree int) []int {
	var part []int
tries:
	for {
		h, c := s.next(len(f) - 1)
		value := modular.Add(trace(h, degree, f, s.p), []int{c}, s.p)
		power, _ := modular.Pow(value, (s.p-1)/2, f, s.p)
		for _, g := range [][]int{value, modular.Sub(power, []int{1}, s.p)} {
			part = modular.Gcd(f, g, s.p)
			if len(part) > 1 && len(part) < len(f) {
				break tries
			}
		}
	}
	return part
}

// trace returns what f leaves of the sum of the powers of h by 1, p, p^2, up to
// p^(degree-1); h has a smaller degree than f.
func trace(h []int, degree int, f []int, p int) []int {
	sum := h
	for range degree - 1 {
		h, _ = modular.Pow(h, p, f, p)
		sum = modular.Add(sum, h, p)
	}
	return sum
}
