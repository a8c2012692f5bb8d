package basis

import (
	"cmp"
	"container/heap"
	"slices"

	"primrose/mono"
)

// pair is the indices i < k of two elements.
type pair struct{ i, k int }

// walk goes through the pairs of a list, ordered by k and then by i.
type walk struct {
	list *list
	i, k int // the next pair, if i < k
}

// next returns the next pair, and true, if there is one.
func (w *walk) next() (pair, bool) {
	if w.i == w.k {
		w.i, w.k = 0, w.k+1
	}
	p := pair{w.i, w.k}
	w.i++
	return p, p.k < len(w.list.elements)
}

// queue is the pairs of a list that least has not returned yet.
type queue struct {
	list *list
	seen int    // how many elements have, or had, a row
	rows []*row // as a heap: the next pair is one of the first row
}

// row is the pairs of an element k with those before it. It is opened only when it
// is the first row: the pairs of many elements may be far more than there is fuel.
type row struct {
	k     int
	least []int // the Lcm of the next pair; of a row that is closed, the leading monomial, which is no greater
	rest  []int // the elements i, the next one first; of a row that is closed, none
}

// least removes the next pair and returns it, and true, if there is one: the one
// with the least Lcm; of several, the one with the least k; of several, the one with
// the least i.
func (q *queue) least() (pair, bool) {
	for ; q.seen < len(q.list.elements); q.seen++ {
		if q.seen > 0 { // the first element has no others before it
			heap.Push(q, &row{k: q.seen, least: q.list.lead(q.seen)})
		}
	}
	if len(q.rows) == 0 {
		return pair{}, false
	}
	for len(q.rows[0].rest) == 0 {
		q.open(q.rows[0])
		heap.Fix(q, 0)
	}
	return q.take(q.rows[0]), true
}

// open puts the pairs of a row in order.
func (q *queue) open(r *row) {
	lcms := make([][]int, r.k)
	r.rest = make([]int, r.k)
	for i := range r.k {
		lcms[i], r.rest[i] = q.lcm(i, r.k), i
	}
	slices.SortFunc(r.rest, func(i, j int) int {
		return cmp.Or(mono.Cmp(q.list.ring, lcms[i], lcms[j]), cmp.Compare(i, j))
	})
	r.least = lcms[r.rest[0]]
}

// take removes the next pair of the first row and returns it.
func (q *queue) take(r *row) pair {
	p := pair{r.rest[0], r.k}
	r.rest = r.rest[1:]
	if len(r.rest) == 0 {
		heap.Pop(q)
	} else {
		r.least = q.lcm(r.rest[0], r.k)
		heap.Fix(q, 0)
	}
	return p
}

// lcm returns the Lcm of the leading monomials of the elements i and k.
func (q *queue) lcm(i, k int) []int {
	e, _ := mono.Lcm(q.list.lead(i), q.list.lead(k))
	return e
}

func (q *queue) Len() int      { return len(q.rows) }
func (q *queue) Swap(i, k int) { q.rows[i], q.rows[k] = q.rows[k], q.rows[i] }
func (q *queue) Push(r any)    { q.rows = append(q.rows, r.(*row)) }

func (q *queue) Less(i, k int) bool {
	c := mono.Cmp(q.list.ring, q.rows[i].least, q.rows[k].least)
	return c < 0 || c == 0 && q.rows[i].k < q.rows[k].k
}

func (q *queue) Pop() any {
	last := len(q.rows) - 1
	r := q.rows[last]
	q.rows = q.rows[:last]
	return r
}
