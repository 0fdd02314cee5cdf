package series

import (
	"container/heap"
	"iter"
)

// A cursor stands at the first of what is left of a list, which is never empty.
type cursor[X any] struct {
	left []X
}

func (c *cursor[X]) here() X {
	return c.left[0]
}

// cursors is a heap: the first stands at an item that is above no other's.
type cursors[X any] struct {
	all   []*cursor[X]
	order func(a, b X) int
}

func (h *cursors[X]) Len() int {
	return len(h.all)
}

func (h *cursors[X]) Less(i, j int) bool {
	return h.order(h.all[i].here(), h.all[j].here()) < 0
}

func (h *cursors[X]) Swap(i, j int) {
	h.all[i], h.all[j] = h.all[j], h.all[i]
}

func (h *cursors[X]) Push(c any) {
	h.all = append(h.all, c.(*cursor[X]))
}

func (h *cursors[X]) Pop() any {
	last := len(h.all) - 1
	c := h.all[last]
	h.all = h.all[:last]
	return c
}

// rising tells of all items of the lists, from the least on, the cursor that stands at it. Each list rises by order.
func rising[X any](lists [][]X, order func(a, b X) int) iter.Seq[*cursor[X]] {
	return func(yield func(*cursor[X]) bool) {
		h := &cursors[X]{order: order}
		for _, list := range lists {
			if len(list) > 0 {
				heap.Push(h, &cursor[X]{list})
			}
		}
		for h.Len() > 0 && yield(h.all[0]) {
			h.moveOn()
		}
	}
}

// moveOn brings the first cursor to its next item, or takes it out, if there is none.
func (h *cursors[X]) moveOn() {
	first := h.all[0]
	if len(first.left) == 1 {
		heap.Pop(h)
		return
	}
	first.left = first.left[1:]
	heap.Fix(h, 0)
}
