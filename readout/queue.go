package readout

import (
	"iter"
	"slices"
)

// queue is elements in the order in which they were put into it.
type queue[T any] struct{ elements []T }

func (q *queue[T]) size() int {
	return len(q.elements)
}

func (q *queue[T]) put(x T) {
	q.elements = append(q.elements, x)
}

// take removes the first element; there must be one.
func (q *queue[T]) take() T {
	x := q.elements[0]
	q.elements = slices.Delete(q.elements, 0, 1)
	return x
}

// all yields the elements, the first one first.
func (q *queue[T]) all() iter.Seq[T] {
	return func(yield func(T) bool) {
		for _, x := range q.elements {
			if !yield(x) {
				return
			}
		}
	}
}

// remove removes the elements of which match reports true, and returns them in their order.
func (q *queue[T]) remove(match func(T) bool) []T {
	var removed, rest []T
	for x := range q.all() {
		if match(x) {
			removed = append(removed, x)
		} else {
			rest = append(rest, x)
		}
	}
	q.elements = rest
	return removed
}
