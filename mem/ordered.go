package mem

import "iter"

// ordered is an ordered set of anything that a function compares. Its nodes are never changed once they hang in it: a copy of it holds, for good, what it held when it was copied.
type ordered[T any] struct {
	root    *node[T]
	compare func(a, b T) int
}

// node has what is ahead of its item on one side, and what is behind it on the other. The heights of the two differ by at most one, so that no way is long.
type node[T any] struct {
	item   T
	ahead  *node[T]
	behind *node[T]
	height int
}

func (o ordered[T]) has(item T) bool {
	n := o.root
	for n != nil {
		c := o.compare(item, n.item)
		switch {
		case c == 0:
			return true
		case c < 0:
			n = n.ahead
		default:
			n = n.behind
		}
	}
	return false
}

// with is the set with one more item, which it does not have yet.
func (o ordered[T]) with(item T) ordered[T] {
	o.root = o.hang(o.root, item)
	return o
}

// hang makes the nodes on the way to the item's place anew, and leaves the old ones to whoever goes through them.
func (o ordered[T]) hang(n *node[T], item T) *node[T] {
	switch {
	case n == nil:
		return join(nil, item, nil)
	case o.compare(item, n.item) < 0:
		return balance(o.hang(n.ahead, item), n.item, n.behind)
	default:
		return balance(n.ahead, n.item, o.hang(n.behind, item))
	}
}

// all goes through the items in order.
func (o ordered[T]) all() iter.Seq[T] {
	return func(yield func(T) bool) { give(o.root, yield) }
}

// from goes through the items that are not ahead of first.
func (o ordered[T]) from(first T) iter.Seq[T] {
	return func(yield func(T) bool) { o.giveFrom(o.root, first, yield) }
}

// give tells whether whoever ranges wants more.
func give[T any](n *node[T], yield func(T) bool) bool {
	return n == nil || give(n.ahead, yield) && yield(n.item) && give(n.behind, yield)
}

// giveFrom is give without what is ahead of first. Behind an item that is not, none is.
func (o ordered[T]) giveFrom(n *node[T], first T, yield func(T) bool) bool {
	switch {
	case n == nil:
		return true
	case o.compare(n.item, first) < 0:
		return o.giveFrom(n.behind, first, yield)
	default:
		return o.giveFrom(n.ahead, first, yield) && yield(n.item) && give(n.behind, yield)
	}
}

func join[T any](ahead *node[T], item T, behind *node[T]) *node[T] {
	return &node[T]{item: item, ahead: ahead, behind: behind, height: 1 + max(height(ahead), height(behind))}
}

// balance joins sides of which one may have grown by one too many: a part of it then goes over to the other.
func balance[T any](ahead *node[T], item T, behind *node[T]) *node[T] {
	switch {
	case height(ahead) > height(behind)+1:
		if mid := ahead.behind; height(mid) > height(ahead.ahead) {
			return join(join(ahead.ahead, ahead.item, mid.ahead), mid.item, join(mid.behind, item, behind))
		}
		return join(ahead.ahead, ahead.item, join(ahead.behind, item, behind))
	case height(behind) > height(ahead)+1:
		if mid := behind.ahead; height(mid) > height(behind.behind) {
			return join(join(ahead, item, mid.ahead), mid.item, join(mid.behind, behind.item, behind.behind))
		}
		return join(join(ahead, item, behind.ahead), behind.item, behind.behind)
	default:
		return join(ahead, item, behind)
	}
}

func height[T any](n *node[T]) int {
	if n == nil {
		return 0
	}
	return n.height
}
