package flow

// queue is a priority queue, kept as a heap: none of its elements is before the one at half its index.
type queue[T any] struct {
	before func(a, b T) bool
	heap   []T
}

// newQueue returns an empty queue with that order.
func newQueue[T any](before func(a, b T) bool) *queue[T] { return &queue[T]{before: before} }

func (q *queue[T]) push(x T) {
	q.heap = append(q.heap, x)
	q.rise(len(q.heap) - 1)
}

// pop takes out an element that no other one is before, if there is one.
func (q *queue[T]) pop() (T, bool) {
	var first T
	if len(q.heap) == 0 {
		return first, false
	}
	first = q.heap[0]
	last := len(q.heap) - 1
	q.heap[0] = q.heap[last]
	q.heap = q.heap[:last]
	q.sink(0)
	return first, true
}

// rise moves the element at i up to its place.
func (q *queue[T]) rise(i int) {
	for up := (i - 1) / 2; i > 0 && q.before(q.heap[i], q.heap[up]); up = (i - 1) / 2 {
		q.heap[i], q.heap[up] = q.heap[up], q.heap[i]
		i = up
	}
}

// sink moves the element at i down to its place.
func (q *queue[T]) sink(i int) {
	for down := q.firstBelow(i); down < len(q.heap) && q.before(q.heap[down], q.heap[i]); down = q.firstBelow(i) {
		q.heap[i], q.heap[down] = q.heap[down], q.heap[i]
		i = down
	}
}

// firstBelow returns the index of the first one of the two elements right below i. It is beyond the heap if there are none.
func (q *queue[T]) firstBelow(i int) int {
	left, right := 2*i+1, 2*i+2
	if right < len(q.heap) && q.before(q.heap[right], q.heap[left]) {
		return right
	}
	return left
}
