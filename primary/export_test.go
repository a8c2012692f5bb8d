package primary

import "primrose/api"

// Settle makes components that are given those that a decomposition returns. No ideal
// has two components of one prime before they are merged, nor is the first one redundant:
// so these cases are tested by themselves.
func Settle(r api.Ring, found []api.Component, fuel int) (l []api.Component, left int, e api.Errno) {
	c := &call{r, fuel}
	l, e = c.settle(found)
	return l, c.left, e
}

// Compare compares polynomials in the order of layer 14.
var Compare = compare
