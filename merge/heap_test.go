package merge

import (
	"math/rand"
	"slices"
	"testing"
)

// weight is something that a heap can hold; text, so that what is left behind of it is seen.
type weight string

func (w weight) ahead(other weight) bool { return w < other }

func drawWeight(r *rand.Rand) weight { return weight('a' + rune(r.Intn(20))) }

func mustBeHeap(t *testing.T, h *heap[weight]) {
	t.Helper()
	for i := 1; i < len(h.list); i++ {
		if h.list[i].ahead(h.list[(i-1)/2]) {
			t.Fatalf("%d is ahead of what it hangs below: %q", i, h.list)
		}
	}
	for _, w := range h.list[len(h.list):cap(h.list)] {
		if w != "" {
			t.Fatalf("%q is kept, though it was taken", w)
		}
	}
}

// 9.4: whatever goes in and out, what is ahead of all comes out first.
func TestHeap(t *testing.T) {
	r := rand.New(rand.NewSource(941))
	for range 200 {
		var h heap[weight]
		var want []weight
		for range r.Intn(300) {
			if h.empty() != (len(want) == 0) {
				t.Fatalf("empty: %v, with %d in it", h.empty(), len(want))
			}
			if len(want) > 0 && r.Intn(5) < 2 {
				if h.top() != want[0] || h.pop() != want[0] {
					t.Fatalf("not %q", want[0])
				}
				want = want[1:]
			} else {
				w := drawWeight(r)
				h.push(w)
				i, _ := slices.BinarySearch(want, w)
				want = slices.Insert(slices.Clone(want), i, w)
			}
			mustBeHeap(t, &h)
		}
		for _, w := range want {
			if h.empty() || h.top() != w || h.pop() != w {
				t.Fatalf("not %q", w)
			}
			mustBeHeap(t, &h)
		}
		if !h.empty() {
			t.Fatalf("left: %q", h.list)
		}
	}
}
