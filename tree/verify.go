package tree

import (
	"slices"
	"sync"

	"strata/api"
)

const maxWorkers = 16

// Verify looks at every run, side by side: the number of the first that is not sound, or 0.
func (t *Tree) Verify(workers int) (int, api.Errno) {
	if !within(workers, 1, maxWorkers) {
		return 0, api.ErrArg
	}
	if t.isDown() {
		return 0, api.ErrDown
	}
	first := t.firstUnsound(workers)
	if first == len(t.parts) {
		return 0, api.OK
	}
	return t.parts[first].meta.Num, api.ErrUnsound
}

// sample is what a run's file has now, and the run's place in the version.
type sample struct {
	place int
	data  []byte
}

// firstUnsound is the place of the first run that is not sound; behind the last one, if all are. The files are read here, since a disk serves one at a time; the workers look at them.
func (t *Tree) firstUnsound(workers int) int {
	hands := make([]chan sample, workers)
	firsts := make([]int, workers)
	var group sync.WaitGroup
	for w := range workers {
		hands[w] = make(chan sample)
		group.Go(func() { firsts[w] = t.lookThrough(hands[w]) })
	}
	for place, p := range t.parts {
		hands[place%workers] <- sample{place, t.readRun(p.meta.Num)}
	}
	for _, h := range hands {
		close(h)
	}
	group.Wait()
	return slices.Min(firsts)
}

// lookThrough is the place of the first of the samples that is not sound; behind all runs, if all are.
func (t *Tree) lookThrough(samples <-chan sample) int {
	first := len(t.parts)
	for s := range samples {
		if _, sound := t.namedPart(t.parts[s.place].meta, s.data); !sound {
			first = min(first, s.place)
		}
	}
	return first
}
