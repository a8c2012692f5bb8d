package several_test

import (
	"testing"

	"primrose/api"
)

// Fewer terms come first, then what is less by the monomials, term by term, and by
// the coefficients.
func TestN3Order(t *testing.T) {
	lex3 := lex(3)
	grlex := api.Ring{Names: letters(3), Order: api.Grlex}
	grevlex := api.Ring{Names: letters(3), Order: api.Grevlex}
	block := api.Ring{Names: letters(3), Order: api.Block, First: 1}
	for _, x := range []struct {
		r          api.Ring
		text, want string
	}{
		// By the numbers of terms, whatever the monomials are.
		{lex(2), "x*(y + 1)", "1 | x | y + 1"},
		{lex(2), "(x^3 + 2)*(y^2 + y + 1)", "1 | x^3 + 2 | y^2 + y + 1"},
		{lex(1), "(x^4 + 2)*(x^2 + x + 1)", "1 | x^4 + 2 | x^2 + x + 1"},
		{lex(1), "(x + 5)*(x^3 + 2)*(x^2 + x + 3)", "1 | x + 5 | x^3 + 2 | x^2 + x + 3"},
		// By the first monomials.
		{lex(2), "x*y", "1 | y | x"},
		{api.Ring{Names: []string{"y", "x"}}, "x*y", "1 | x | y"},
		{lex(2), "(x + 9)*(y^3 + 2)", "1 | y^3 + 2 | x + 9"},
		{api.Ring{Names: letters(2), Order: api.Grevlex}, "(x + 9)*(y^3 + 2)", "1 | x + 9 | y^3 + 2"},
		{lex3, "(x*z + 3)*(y^2 + 2)", "1 | y^2 + 2 | x*z + 3"},
		{grlex, "(x*z + 3)*(y^2 + 2)", "1 | y^2 + 2 | x*z + 3"},
		{grevlex, "(x*z + 3)*(y^2 + 2)", "1 | x*z + 3 | y^2 + 2"},
		{block, "(x*z + 3)*(y^2 + 2)", "1 | y^2 + 2 | x*z + 3"},
		{block, "(x + 3)*(y^2 + 2)", "1 | y^2 + 2 | x + 3"},
		// By later ones.
		{lex(2), "(x + y)*(x + 7)", "1 | x + 7 | x + y"},
		{lex(2), "(x^2 + y)*(x^2 + x)", "1 | x | x + 1 | x^2 + y"},
		{lex(2), "(x^2 + x + y)*(x^2 + y + 5)", "1 | x^2 + y + 5 | x^2 + x + y"},
		{lex(2), "(x^2 + y^2 + 7)*(x^2 + y^2 + y)", "1 | x^2 + y^2 + 7 | x^2 + y^2 + y"},
		// By the coefficients, term by term.
		{lex(2), "(x + y)*(x - y)*(x + 2*y)", "1 | x - y | x + y | x + 2*y"},
		{lex(2), "(x - 10*y)*(x - 9*y)", "1 | x - 10*y | x - 9*y"},
		{lex(2), "(2*x + y)*(x + 3*y)", "1 | x + 3*y | 2*x + y"},
		{lex(2), "(2*x + 1)*(x + y)", "1 | x + y | 2*x + 1"},
		{lex(2), "(3*x + y)*(3*x + 1)*(2*x + y)", "1 | 2*x + y | 3*x + 1 | 3*x + y"},
		{lex(2), "(x - 4*y + 2)*(x - 5*y + 3)", "1 | x - 5*y + 3 | x - 4*y + 2"},
		{lex(2), "(x + y - 4)*(x + y - 5)*(x + y + 1)", "1 | x + y - 5 | x + y - 4 | x + y + 1"},
		{lex(1), "(x - 2)*(x - 3)*(x + 1)*(2*x - 7)", "1 | x - 3 | x - 2 | x + 1 | 2*x - 7"},
		// Multiplicities stand beside it.
		{lex(2), "(x + y)*(x - 2)^2*y", "1 | y | x - 2 : 2 | x + y"},
		{lex(1), "x^3*(x - 2)^2*(x + 1)", "1 | x : 3 | x - 2 : 2 | x + 1"},
	} {
		expectTold(t, x.r, x.text, x.want)
	}
}
