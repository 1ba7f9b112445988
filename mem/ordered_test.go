package mem

import (
	"cmp"
	"math/rand"
	"slices"
	"strings"
	"testing"
)

// mustHang: the nodes stand in order, their heights are right, and no side is more than one higher than the other.
func mustHang[T any](t *testing.T, o ordered[T]) {
	t.Helper()
	var measure func(n *node[T]) int
	measure = func(n *node[T]) int {
		if n == nil {
			return 0
		}
		ahead, behind := measure(n.ahead), measure(n.behind)
		if ahead-behind > 1 || behind-ahead > 1 || n.height != 1+max(ahead, behind) {
			t.Fatalf("sides of %d and %d, height %d", ahead, behind, n.height)
		}
		return n.height
	}
	measure(o.root)
	if l := slices.Collect(o.all()); !slices.IsSortedFunc(l, o.compare) {
		t.Fatalf("out of order: %v", l)
	}
}

func numbers(items ...int) ordered[int] {
	o := ordered[int]{compare: cmp.Compare[int]}
	for _, n := range items {
		o = o.with(n)
	}
	return o
}

// 8.6, 8.7: in whatever order items come, no way is long.
func TestNoSideGrowsTooHigh(t *testing.T) {
	r := rand.New(rand.NewSource(891))
	for n := range 80 {
		rising := make([]int, n)
		for i := range rising {
			rising[i] = i
		}
		falling := slices.Clone(rising)
		slices.Reverse(falling)
		mustHang(t, numbers(rising...))
		mustHang(t, numbers(falling...))
		for range 10 {
			mustHang(t, numbers(r.Perm(n)...))
		}
	}
	// Two and a turn between them: each of the four ways in which a side grows too high.
	for _, l := range [][]int{{1, 2, 3}, {1, 3, 2}, {3, 1, 2}, {3, 2, 1}} {
		o := numbers(l...)
		mustHang(t, o)
		if o.root.item != 2 || o.root.height != 2 {
			t.Errorf("%v: %d on top, height %d", l, o.root.item, o.root.height)
		}
	}
}

// 8.5: nodes that hang in a set are never changed: each earlier set holds what it held.
func TestNodesAreNeverChanged(t *testing.T) {
	o := numbers()
	was := map[*node[int]]node[int]{}
	var keep func(n *node[int])
	keep = func(n *node[int]) {
		if n != nil {
			was[n] = *n
			keep(n.ahead)
			keep(n.behind)
		}
	}
	var olds []ordered[int]
	for _, n := range rand.New(rand.NewSource(892)).Perm(200) {
		o = o.with(n)
		for n, before := range was {
			if *n != before {
				t.Fatalf("the node of %d was changed", before.item)
			}
		}
		keep(o.root)
		olds = append(olds, o)
	}
	for i, old := range olds {
		mustHang(t, old)
		if l := slices.Collect(old.all()); len(l) != i+1 {
			t.Fatalf("the set of %d has %d", i+1, len(l))
		}
	}
}

// 8.5: what one more item leaves as it is hangs in both sets: only the way is made anew.
func TestOnlyTheWayIsMadeAnew(t *testing.T) {
	o := numbers(rand.New(rand.NewSource(893)).Perm(1000)...)
	olds := map[*node[int]]int{}
	var count func(n *node[int]) int
	count = func(n *node[int]) int {
		if n == nil {
			return 0
		}
		fresh := 1 - olds[n]
		return fresh + count(n.ahead) + count(n.behind)
	}
	var keep func(n *node[int])
	keep = func(n *node[int]) {
		if n != nil {
			olds[n] = 1
			keep(n.ahead)
			keep(n.behind)
		}
	}
	keep(o.root)
	// A turn makes two nodes anew beside the way, and there is at most one.
	for _, item := range []int{-1, 1000} {
		if fresh := count(o.with(item).root); fresh > o.root.height+2 {
			t.Errorf("with %d: %d new nodes, of height %d", item, fresh, o.root.height)
		}
	}
}

// 8.5: it orders anything by the comparison that it is given.
func TestOrderedByAnyComparison(t *testing.T) {
	o := ordered[string]{compare: func(a, b string) int { return strings.Compare(b, a) }}
	for _, s := range []string{"b", "d", "a", "c"} {
		if o.has(s) {
			t.Errorf("%s is there already", s)
		}
		o = o.with(s)
	}
	mustHang(t, o)
	for first, want := range map[string]string{"": "", "a": "a", "bb": "ba", "c": "cba", "z": "dcba"} {
		if got := strings.Join(slices.Collect(o.from(first)), ""); got != want {
			t.Errorf("from %q: %q, want %q", first, got, want)
		}
	}
	if !o.has("a") || !o.has("d") || o.has("bb") || o.has("") {
		t.Error("has")
	}
}
