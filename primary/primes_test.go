package primary_test

import (
	"testing"

	"primrose/api"
)

// The primes, the minimal ones, the radical and the hull, and the steps that each of these
// takes.
func TestU2U3U4Examples(t *testing.T) {
	t.Parallel()
	for _, x := range []struct {
		names                           int
		f, primes, least, radical, hull string
		steps                           []int
	}{
		{1, "x", "x", "x", "x", "x", []int{15, 15, 19, 19}},
		{1, "x^2 - 2", "x^2 - 2", "x^2 - 2", "x^2 - 2", "x^2 - 2", []int{17, 17, 22, 22}},
		{1, "x^3", "x", "x", "x", "x^3", []int{19, 19, 23, 23}},
		{1, "x^3 - x^2", "x / x - 1", "x / x - 1", "x^2 - x", "x^3 - x^2", []int{44, 46, 60, 60}},
		{1, "x^3 - x", "x / x - 1 / x + 1", "x / x - 1 / x + 1", "x^3 - x", "x^3 - x", []int{97, 103, 134, 128}},
		{1, "(x^2 + 1)*(2*x - 3)^2*x", "x / x - 3/2 / x^2 + 1", "x / x - 3/2 / x^2 + 1", "x^4 - 3/2*x^3 + x^2 - 3/2*x", "x^5 - 3*x^4 + 13/4*x^3 - 3*x^2 + 9/4*x", []int{148, 153, 200, 204}},
		{1, "x^4 - 5*x^2 + 6; 3*x^3 - 6*x", "x^2 - 2", "x^2 - 2", "x^2 - 2", "x^2 - 2", []int{21, 21, 26, 26}},
		{2, "x", "x", "x", "x", "x", []int{15, 15, 19, 19}},
		{2, "x^2 + 1", "x^2 + 1", "x^2 + 1", "x^2 + 1", "x^2 + 1", []int{17, 17, 22, 22}},
		{2, "x*y", "y / x", "y / x", "x*y", "x*y", []int{45, 45, 53, 53}},
		{2, "x^2; x*y", "x / y; x", "x", "x", "x", []int{103, 104, 108, 107}},
		{2, "x^2 - 1; y", "y; x - 1 / y; x + 1", "y; x - 1 / y; x + 1", "y; x^2 - 1", "y; x^2 - 1", []int{133, 137, 195, 191}},
		{2, "x^2*y", "y / x", "y / x", "x*y", "x^2*y", []int{47, 47, 55, 55}},
		{2, "x^2 - y^2", "x - y / x + y", "x - y / x + y", "x^2 - y^2", "x^2 - y^2", []int{43, 45, 64, 62}},
		{2, "x^4 + 4*y^4", "x^2 - 2*x*y + 2*y^2 / x^2 + 2*x*y + 2*y^2", "x^2 - 2*x*y + 2*y^2 / x^2 + 2*x*y + 2*y^2", "x^4 + 4*y^4", "x^4 + 4*y^4", []int{55, 57, 93, 91}},
		{2, "x^2; x*y; y^2", "y; x", "y; x", "y; x", "y^2; x*y; x^2", []int{109, 109, 122, 140}},
		{2, "x^2 - 2; y^2 - 2", "y^2 - 2; x - y / y^2 - 2; x + y", "y^2 - 2; x - y / y^2 - 2; x + y", "y^2 - 2; x^2 - 2", "y^2 - 2; x^2 - 2", []int{367, 371, 486, 482}},
		{2, "x; y^2 - y", "y; x / y - 1; x", "y; x / y - 1; x", "y^2 - y; x", "y^2 - y; x", []int{193, 195, 244, 242}},
		{2, "x^3*y; x^2*y^2", "y / x / y; x", "y / x", "x*y", "x^2*y", []int{379, 381, 389, 387}},
		{2, "x^2*y - x*y", "y / x / x - 1", "y / x / x - 1", "x^2*y - x*y", "x^2*y - x*y", []int{87, 89, 109, 107}},
		{2, "x^2 - x; x*y", "x / y; x - 1", "x / y; x - 1", "x*y; x^2 - x", "x", []int{199, 200, 231, 203}},
		{2, "y^2; x*y - y", "y / y; x - 1", "y", "y", "y", []int{114, 116, 120, 118}},
		{2, "2*x^2 - 1/3*x; x*y", "x / y; x - 1/6", "x / y; x - 1/6", "x*y; x^2 - 1/6*x", "x", []int{199, 200, 231, 203}},
		{2, "x*y^2 - x; x^2*y - y", "y; x / y - 1; x - 1 / y - 1; x + 1 / y + 1; x - 1 / y + 1; x + 1", "y; x / y - 1; x - 1 / y - 1; x + 1 / y + 1; x - 1 / y + 1; x + 1", "y^3 - y; x*y^2 - x; x^2 - y^2", "y^3 - y; x*y^2 - x; x^2 - y^2", []int{2411, 2435, 2915, 2891}},
		{2, "x^2*y; y^3", "y / y; x", "y", "y", "y", []int{106, 108, 112, 110}},
		{3, "x*y; x*z", "x / z; y", "x / z; y", "x*z; x*y", "x", []int{330, 330, 347, 334}},
		{3, "x*y*z", "z / y / x", "z / y / x", "x*y*z", "x*y*z", []int{85, 85, 97, 97}},
		{3, "x^2; x*y; x*z", "x / z; y; x", "x", "x", "x", []int{498, 499, 503, 502}},
		{3, "x*y; y*z; x*z", "z; y / z; x / y; x", "z; y / z; x / y; x", "y*z; x*z; x*y", "y*z; x*z; x*y", []int{323, 326, 388, 385}},
		{3, "x*z - y^2; x^3 - y*z", "y; x / y^5 - z^4; x*z - y^2; x*y^3 - z^3; x^2*y - z^2; x^3 - y*z", "y; x / y^5 - z^4; x*z - y^2; x*y^3 - z^3; x^2*y - z^2; x^3 - y*z", "y^6 - y*z^4; x*z - y^2; x*y^4 - y*z^3; x^2*y^2 - y*z^2; x^3 - y*z", "y^6 - y*z^4; x*z - y^2; x*y^4 - y*z^3; x^2*y^2 - y*z^2; x^3 - y*z", []int{941, 942, 1172, 1171}},
		{3, "x^2*z - y^2", "x^2*z - y^2", "x^2*z - y^2", "x^2*z - y^2", "x^2*z - y^2", []int{30, 30, 35, 35}},
		{3, "x*y - z^2; x^2", "z; x", "z; x", "z; x", "z^4; x*z^2; x*y - z^2; x^2", []int{200, 200, 213, 271}},
		{3, "x^2 - y^2*z", "x^2 - y^2*z", "x^2 - y^2*z", "x^2 - y^2*z", "x^2 - y^2*z", []int{17, 17, 22, 22}},
		{3, "x^2*y; x*y^2*z", "y / x / z; x / y; x", "y / x", "x*y", "x*y", []int{1703, 1706, 1714, 1711}},
		{3, "x^2 - z; y^2 - z", "y^2 - z; x - y / y^2 - z; x + y", "y^2 - z; x - y / y^2 - z; x + y", "y^2 - z; x^2 - z", "y^2 - z; x^2 - z", []int{388, 392, 525, 521}},
		{3, "x*y*z^2 + x*z", "z / x / y*z + 1", "z / x / y*z + 1", "x*y*z^2 + x*z", "x*y*z^2 + x*z", []int{473, 474, 494, 493}},
		{3, "2*x^2*z - 2*x*y^2", "x / x*z - y^2", "x / x*z - y^2", "x^2*z - x*y^2", "x^2*z - x*y^2", []int{142, 143, 154, 153}},
		{3, "3*x*z; 3*x*y + z", "z; y / z; x", "z; y / z; x", "z; x*y", "z^2; x*z; x*y + 1/3*z", []int{468, 470, 503, 552}},
		{3, "x^2*y*z^2; 3*x - 2*y*z^2", "z; x / y; x", "z; x / y; x", "y*z; x", "y^3*z^6; x - 2/3*y*z^2", []int{688, 688, 721, 865}},
		{3, "y^2*z + y*z; x*z^2", "z / z; y / z; y + 1 / y; x / y + 1; x", "z / y; x / y + 1; x", "y^2*z + y*z; x*z", "z", []int{1336, 1342, 1401, 1340}},
		{3, "x - y*z; y - x*z", "y; x / z - 1; x - y / z + 1; x + y", "y; x / z - 1; x - y / z + 1; x + y", "y*z^2 - y; x - y*z", "y*z^2 - y; x - y*z", []int{539, 541, 672, 670}},
		{4, "x*z; x*u; y*z; y*u", "u; z / y; x", "u; z / y; x", "y*u; y*z; x*u; x*z", "y*u; y*z; x*u; x*z", []int{1687, 1687, 1738, 1738}},
		{4, "x*u - y*z; x^2; y^2", "y; x / u; z; y; x", "y; x", "y; x", "y^2; x*u - y*z; x*y; x^2", []int{3660, 3662, 3675, 3768}},
		{4, "x*u - y*z", "x*u - y*z", "x*u - y*z", "x*u - y*z", "x*u - y*z", []int{17, 17, 22, 22}},
		{4, "x^2; x*y; y^2; x*u - y*z", "y; x", "y; x", "y; x", "y^2; x*u - y*z; x*y; x^2", []int{277, 277, 290, 385}},
	} {
		r := lex(x.names)
		for k, want := range []string{x.primes, x.least, x.radical, x.hull} {
			q := question{calls()[k+1], r, parsedList(t, r, x.f)}
			a := q.ask(api.MaxFuel)
			if a.e != api.OK || a.printed(r) != want || api.MaxFuel-a.left != x.steps[k] {
				t.Errorf("U%d: %v: %s, not %s with %d", max(2, k+1), q, q.told(a), want, api.MaxFuel-x.steps[k])
			}
			expectWords(t, q, api.MaxFuel)
		}
	}
}
