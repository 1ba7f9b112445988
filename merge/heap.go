package merge

// ranked is what a heap can hold: it tells itself whether it is ahead of another one.
type ranked[T any] interface {
	ahead(other T) bool
}

// heap has the one at hand that is ahead of all others. The one at i is not behind those at 2i+1 and 2i+2.
type heap[T ranked[T]] struct {
	list []T
}

func (h *heap[T]) empty() bool { return len(h.list) == 0 }

// top and pop are asked of a heap that is not empty.
func (h *heap[T]) top() T { return h.list[0] }

func (h *heap[T]) push(x T) {
	h.list = append(h.list, x)
	h.rise(len(h.list) - 1)
}

func (h *heap[T]) pop() T {
	end := len(h.list) - 1
	h.swap(0, end)
	x := h.list[end]
	clear(h.list[end:])
	h.list = h.list[:end]
	h.sink(0)
	return x
}

func (h *heap[T]) rise(i int) {
	for i > 0 {
		up := (i - 1) / 2
		if !h.list[i].ahead(h.list[up]) {
			return
		}
		h.swap(i, up)
		i = up
	}
}

func (h *heap[T]) sink(i int) {
	for {
		down := 2*i + 1
		if down >= len(h.list) {
			return
		}
		if other := down + 1; other < len(h.list) && h.list[other].ahead(h.list[down]) {
			down = other
		}
		if !h.list[down].ahead(h.list[i]) {
			return
		}
		h.swap(i, down)
		i = down
	}
}

func (h *heap[T]) swap(i, j int) { h.list[i], h.list[j] = h.list[j], h.list[i] }
