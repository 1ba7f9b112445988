package merge

import (
	"math"
	"sync"

	"strata/api"
)

// Side takes up to most entries of each source, side by side, until done is closed: all of them, merged.
func Side(done <-chan struct{}, most int, sources ...Source) ([]api.Entry, api.Errno) {
	if err := check(sources); err != api.OK {
		return nil, err
	}
	if closed(done) {
		return nil, api.ErrClosed
	}
	parts, whole := fetch(done, most, sources)
	if !whole {
		return nil, api.ErrClosed
	}
	return Take(join(parts), math.MaxInt)
}

// closed tells whether a channel is; what somebody sends into it does not close it.
func closed(done <-chan struct{}) bool {
	for {
		select {
		case _, open := <-done:
			if !open {
				return true
			}
		default:
			return false
		}
	}
}

// fetch takes the sources' parts, by a goroutine each; false: done was closed, and parts may be missing.
func fetch(done <-chan struct{}, most int, sources []Source) ([]Source, bool) {
	x := exchange{done: done, over: make(chan struct{}), sent: make(chan taken, len(sources))}
	var group sync.WaitGroup
	defer group.Wait()
	defer close(x.over)
	for i, s := range sources {
		group.Go(func() { x.feed(i, s, most) })
	}
	return x.collect(len(sources))
}

// exchange is what the goroutines send into, and one receives from.
type exchange struct {
	done <-chan struct{}
	over chan struct{} // closed when nobody receives any more
	sent chan taken
}

// taken is one thing that was taken of a source: an entry, or, without one, that its part ends there, and by which error.
type taken struct {
	from  int
	entry api.Entry
	more  bool
	err   api.Errno
}

// feed sends a source's part, and on every way out that it ends: whoever receives waits for that. A part that ends early because of done is never used.
func (x exchange) feed(from int, s Source, most int) {
	end := api.ErrSource // of a source whose call never comes back, as it ends the goroutine
	defer func() { x.send(taken{from: from, err: end}) }()
	for range most {
		e, more, err := ask(s)
		if !more {
			end = err
			return
		}
		if !x.send(taken{from: from, entry: e, more: true}) {
			return
		}
	}
	end = api.OK
}

// send tells whether it could; if not, nobody needs what it should send.
func (x exchange) send(t taken) bool {
	for {
		select {
		case x.sent <- t:
			return true
		case _, open := <-x.done:
			if !open {
				return false
			}
		case <-x.over:
			return false
		}
	}
}

// receive tells false, if there is nothing to wait for any more.
func (x exchange) receive() (taken, bool) {
	for {
		select {
		case t := <-x.sent:
			return t, true
		case _, open := <-x.done:
			if !open {
				return taken{}, false
			}
		case <-x.over:
			return taken{}, false
		}
	}
}

// collect receives until each of the parts has ended; false: done was closed.
func (x exchange) collect(sources int) ([]Source, bool) {
	lists := make([]list, sources)
	for ended := 0; ended < sources; {
		t, ok := x.receive()
		switch {
		case !ok:
			return nil, false
		case t.more:
			lists[t.from].rest = append(lists[t.from].rest, t.entry)
		default:
			lists[t.from].end = t.err
			ended++
		}
	}
	parts := make([]Source, sources)
	for i := range lists {
		parts[i] = &lists[i]
	}
	// A goroutine that gave up saw done closed: then it is seen here too.
	return parts, !closed(x.done)
}
