package primary_test

import (
	"fmt"
	"testing"

	"primrose/api"
)

func TestExplore(t *testing.T) {
	for _, x := range []struct {
		n int
		f string
	}{{2, "x^2; x*y"}, {2, "x*y"}, {2, ""}, {2, "1"}, {2, "x^2 - 1; y"}, {3, "x*y; x*z"}, {3, "x^2; x*y; x*z"}, {3, "x^2*y; x*y^2*z"}, {2, "x^3*y; x^2*y^2"}, {3, "x*y*z"}, {4, "x*z; x*u; y*z; y*u"}, {3, "x*z - y^2; x^3 - y*z"}, {3, "x^2*y^3*z; x*y*z^2"}, {2, "x^4 + 4"}} {
		r := lex(x.n)
		q := question{"Decompose", r, parsedList(t, r, x.f)}
		a, way := q.words(api.MaxFuel)
		fmt.Println(x.f, "=>", q.told(a), "| s", way.powers, "found", printedComponents(r, way.found), "| merged", way.merged, "removed", way.removed, "tested", way.tested, "steps", api.MaxFuel-a.left)
		expect(t, q, api.MaxFuel, a)
	}
}
