package merge_test

import (
	"math"
	"math/rand"
	"runtime"
	"slices"
	"sync"
	"sync/atomic"
	"testing"
	"time"

	"strata/api"
	"strata/merge"
)

// sourceFunc is a source that a function tells.
type sourceFunc func() (api.Entry, bool, api.Errno)

func (f sourceFunc) Next() (api.Entry, bool, api.Errno) { return f() }

// endless tells entries for ever, in order.
func endless(row string, each func(n int)) merge.Source {
	n := 0
	return sourceFunc(func() (api.Entry, bool, api.Errno) {
		n++
		each(n)
		return put(row, math.MaxInt-n), true, api.OK
	})
}

// within fails the test if something does not end by itself.
func within(t *testing.T, do func()) {
	t.Helper()
	ended := make(chan struct{})
	go func() {
		defer close(ended)
		do()
	}()
	select {
	case <-ended:
	case <-time.After(time.Minute):
		t.Fatal("it does not end")
	}
}

// noneLeft fails the test if there are more goroutines than before. One that is through may take a moment to be gone.
func noneLeft(t *testing.T, before int) {
	t.Helper()
	for range 2000 {
		if runtime.NumGoroutine() <= before {
			return
		}
		time.Sleep(time.Millisecond)
	}
	t.Fatalf("%d goroutines, %d before", runtime.NumGoroutine(), before)
}

func closedChannel() chan struct{} {
	done := make(chan struct{})
	close(done)
	return done
}

// 9.5: against the model of what Take tells, with a done that is nil, or never closed.
func TestSideAgainstTheModel(t *testing.T) {
	r := rand.New(rand.NewSource(951))
	open := make(chan struct{})
	for i := range 6000 {
		scripts := drawScripts(r)
		most := r.Intn(45) - 2
		want, wantErr := model(cut(scripts, most))
		var done <-chan struct{}
		if i%2 == 0 {
			done = open
		}
		players, sources := play(scripts)
		got, err := merge.Side(done, most, sources...)
		mustTell(t, "Side", got, err, want, wantErr)
		mustNotBeLate(t, players)
		for k, p := range players {
			if p.asked > max(most, 0) {
				t.Fatalf("source %d was asked %d times, most: %d", k, p.asked, most)
			}
		}
	}
}

// 9.5: as Take, so that what is wrong behind the most-th entry is not met.
func TestSideMost(t *testing.T) {
	a, b, c, d, _ := five()
	scripts := []script{{[]api.Entry{a, c}, api.ErrBroken}, {[]api.Entry{b, d}, api.ErrDown}}
	for _, k := range []struct {
		most int
		want []api.Entry
		err  api.Errno
	}{
		{math.MinInt, nil, api.OK}, {-1, nil, api.OK}, {0, nil, api.OK},
		{1, []api.Entry{a, b}, api.OK}, {2, []api.Entry{a, b, c, d}, api.OK},
		{3, []api.Entry{a, b, c}, api.ErrBroken}, {math.MaxInt, []api.Entry{a, b, c}, api.ErrBroken},
	} {
		got, err := merge.Side(nil, k.most, sourcesOf(scripts)...)
		mustTell(t, "Side", got, err, k.want, k.err)
	}
	got, err := merge.Side(nil, 2, merge.Of(c, d, a))
	mustTell(t, "one that goes back behind them", got, err, []api.Entry{c, d}, api.OK)
	got, err = merge.Side(nil, 3, merge.Of(c, d, a))
	mustTell(t, "one that goes back", got, err, []api.Entry{c, d}, api.ErrSource)
	got, err = merge.Side(nil, 0, &player{script: script{end: api.ErrBroken}})
	mustTell(t, "one that is not asked", got, err, nil, api.OK)
}

// 9.5: ErrSource ahead of ErrClosed; with either no source is asked.
func TestSideRefuses(t *testing.T) {
	for _, done := range []chan struct{}{nil, make(chan struct{}), closedChannel()} {
		for n := range 70 {
			players, sources := play(make([]script, n))
			want := api.OK
			switch {
			case n > 64:
				want = api.ErrSource
			case done != nil && cap(done) == 0 && isClosed(done):
				want = api.ErrClosed
			}
			got, err := merge.Side(done, 9, sources...)
			mustTell(t, "Side", got, err, nil, want)
			for _, p := range players {
				if (p.asked > 0) != (want == api.OK) {
					t.Fatalf("asked %d times with error %d", p.asked, want)
				}
			}
			if n == 0 {
				continue
			}
			sources[n/2] = nil
			got, err = merge.Side(done, 9, sources...)
			mustTell(t, "Side with a nil", got, err, nil, api.ErrSource)
		}
	}
	got, err := merge.Side(closedChannel(), 0)
	mustTell(t, "closed, and nothing to do", got, err, nil, api.ErrClosed)
}

func isClosed(done chan struct{}) bool {
	select {
	case <-done:
		return true
	default:
		return false
	}
}

// 9.5: a source's own ErrClosed is an error as any other: what is ahead of it is told.
func TestSideOfASourceThatWasClosed(t *testing.T) {
	a, b, c, _, _ := five()
	scripts := []script{{[]api.Entry{a, c}, api.OK}, {[]api.Entry{b}, api.ErrClosed}}
	got, err := merge.Side(make(chan struct{}), 9, sourcesOf(scripts)...)
	mustTell(t, "Side", got, err, []api.Entry{a, b}, api.ErrClosed)
}

// 9.5: what is sent into done does not close it.
func TestSideWithWordsInDone(t *testing.T) {
	r := rand.New(rand.NewSource(952))
	for range 500 {
		scripts := drawScripts(r)
		want, wantErr := model(scripts)
		done := make(chan struct{}, 9)
		for range 9 {
			done <- struct{}{}
		}
		_, sources := play(scripts)
		for i, s := range sources {
			sources[i] = sourceFunc(func() (api.Entry, bool, api.Errno) {
				select {
				case done <- struct{}{}:
				default:
				}
				return s.Next()
			})
		}
		got, err := merge.Side(done, 99, sources...)
		mustTell(t, "Side", got, err, want, wantErr)
	}
	done := make(chan struct{}, 9)
	done <- struct{}{}
	close(done)
	got, err := merge.Side(done, 9, merge.Of(put("a", 1)))
	mustTell(t, "closed behind a word", got, err, nil, api.ErrClosed)
}

// meeting is a place where a number of goroutines wait for one another, again and again.
type meeting struct {
	lock  sync.Mutex
	size  int
	there int
	leave chan struct{}
}

func (m *meeting) wait() {
	m.lock.Lock()
	m.there++
	leave := m.leave
	if m.there == m.size {
		close(leave)
		m.there, m.leave = 0, make(chan struct{})
	}
	m.lock.Unlock()
	<-leave
}

// 9.5: the sources are asked side by side: each call of one waits until all others are asked too.
func TestSideBySide(t *testing.T) {
	for _, sources := range []int{2, 5, 64} {
		met := &meeting{size: sources, leave: make(chan struct{})}
		var want []api.Entry
		var list []merge.Source
		for k := range sources {
			p := &player{}
			for i := range 200 {
				p.l = append(p.l, put(string([]byte{byte(k)}), 1000-i))
			}
			want = append(want, p.l...)
			list = append(list, sourceFunc(func() (api.Entry, bool, api.Errno) {
				met.wait()
				return p.Next()
			}))
		}
		within(t, func() {
			got, err := merge.Side(make(chan struct{}), 1000, list...)
			mustTell(t, "Side", got, err, want, api.OK)
		})
	}
}

// 9.5: no goroutine is left, whatever the answer is.
func TestSideLeavesNoGoroutine(t *testing.T) {
	before := runtime.NumGoroutine()
	r := rand.New(rand.NewSource(953))
	for range 200 {
		merge.Side(nil, r.Intn(40), sourcesOf(drawScripts(r))...)
		merge.Side(closedChannel(), r.Intn(40), sourcesOf(drawScripts(r))...)
		merge.Side(nil, 9, append(sourcesOf(drawScripts(r)), nil)...)
	}
	noneLeft(t, before)
}

// 9.5: closed while a source is being asked, at each of its calls: all, or none and ErrClosed; and nobody is asked any more.
func TestSideClosedMeanwhile(t *testing.T) {
	r := rand.New(rand.NewSource(954))
	before := runtime.NumGoroutine()
	whole, none := 0, 0
	for range 3000 {
		scripts := drawScripts(r)
		want, wantErr := model(scripts)
		players, sources := play(scripts)
		stop := api.NewStop()
		left := int64(r.Intn(60))
		var going, after atomic.Int64
		for i, s := range sources {
			sources[i] = sourceFunc(func() (api.Entry, bool, api.Errno) {
				going.Add(1)
				defer going.Add(-1)
				if atomic.AddInt64(&left, -1) == 0 {
					stop.Close()
				}
				after.Add(1)
				return s.Next()
			})
		}
		got, err := merge.Side(stop.Done(), 99, sources...)
		asked := after.Load()
		if going.Load() != 0 {
			t.Fatal("a source is still being asked")
		}
		if err == api.ErrClosed && isClosedStop(stop) && len(got) == 0 {
			none++
		} else {
			mustTell(t, "closed meanwhile", got, err, want, wantErr)
			whole++
		}
		runtime.Gosched()
		if after.Load() != asked {
			t.Fatal("a source was asked behind the answer")
		}
		mustNotBeLate(t, players)
	}
	if whole == 0 || none == 0 {
		t.Errorf("%d whole, %d stopped", whole, none)
	}
	noneLeft(t, before)
}

func isClosedStop(s *api.Stop) bool {
	select {
	case <-s.Done():
		return true
	default:
		return false
	}
}

// 9.5: closed meanwhile, it ends though the sources never would.
func TestSideOfEndlessSources(t *testing.T) {
	before := runtime.NumGoroutine()
	for _, at := range []int{1, 2, 100, 5000} {
		stop := api.NewStop()
		within(t, func() {
			got, err := merge.Side(stop.Done(), math.MaxInt,
				endless("a", func(int) {}),
				merge.Of(put("b", 1)),
				endless("c", func(n int) {
					if n == at {
						stop.Close()
					}
				}))
			mustTell(t, "Side", got, err, nil, api.ErrClosed)
		})
	}
	noneLeft(t, before)
}

// 9.5: it waits for a source that is being asked, even when done is closed.
func TestSideWaitsForItsSources(t *testing.T) {
	stop := api.NewStop()
	var through atomic.Bool
	asked, free := make(chan struct{}), make(chan struct{})
	slow := sourceFunc(func() (api.Entry, bool, api.Errno) {
		close(asked)
		<-free
		through.Store(true)
		return api.Entry{}, false, api.OK
	})
	go func() {
		<-asked
		stop.Close()
		time.Sleep(30 * time.Millisecond)
		close(free)
	}()
	got, err := merge.Side(stop.Done(), 9, merge.Of(put("a", 1)), slow)
	if !through.Load() {
		t.Error("it answered while a source was being asked")
	}
	mustTell(t, "Side", got, err, nil, api.ErrClosed)
}

// 9.6: a source's call that ends its goroutine ends neither Side nor the test.
func TestSideOfASourceThatLeaves(t *testing.T) {
	a, b, c, _, _ := five()
	before := runtime.NumGoroutine()
	p := &player{script: script{l: []api.Entry{b}}}
	leaver := sourceFunc(func() (api.Entry, bool, api.Errno) {
		if p.at == len(p.l) {
			runtime.Goexit()
		}
		return p.Next()
	})
	within(t, func() {
		got, err := merge.Side(nil, 9, merge.Of(a, c), leaver)
		mustTell(t, "Side", got, err, []api.Entry{a, b}, api.ErrSource)
	})
	noneLeft(t, before)
}

// 9.8: with a most that is enough, Side tells what New tells.
func TestSideIsOneBehindTheOther(t *testing.T) {
	r := rand.New(rand.NewSource(98))
	for i := range 4000 {
		scripts := drawScripts(r)
		if i%2 == 0 {
			scripts = shareOut(r, distinct(r, r.Intn(60)), 1+r.Intn(64))
		}
		most := 1
		for _, s := range scripts {
			most = max(most, len(s.l)+1)
		}
		want, wantErr := told(t, newMerge(t, sourcesOf(scripts)...))
		for _, n := range []int{most, most + 7, math.MaxInt} {
			got, err := merge.Side(nil, n, sourcesOf(scripts)...)
			mustTell(t, "Side", got, err, want, wantErr)
		}
		sound := !slices.ContainsFunc(scripts, func(s script) bool { return s.end != api.OK })
		if sound {
			got, err := merge.Side(nil, most-1, sourcesOf(scripts)...)
			mustTell(t, "Side with a most that is just enough", got, err, want, wantErr)
		}
	}
}

// 9.6: several at a time, each with sources of its own.
func TestSeveralSides(t *testing.T) {
	var group sync.WaitGroup
	for k := range 8 {
		group.Go(func() {
			r := rand.New(rand.NewSource(int64(960 + k)))
			for range 100 {
				scripts := drawScripts(r)
				want, wantErr := model(scripts)
				got, err := merge.Side(nil, 99, sourcesOf(scripts)...)
				if !sameAll(got, want) || err != wantErr {
					t.Errorf("%q, %d, want %q, %d", names(got), err, names(want), wantErr)
				}
			}
		})
	}
	group.Wait()
}
