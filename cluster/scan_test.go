package cluster_test

import (
	"fmt"
	"math/rand"
	"runtime"
	"slices"
	"strings"
	"testing"
	"time"

	"strata/api"
	"strata/cluster"
)

// filled is a node alone with so many rows, r000 and on, over four tablets, the third of which has none.
func filled(t *testing.T, rows int) *cluster.Cluster {
	t.Helper()
	x := alone(t, fmt.Sprintf("r%03d", rows/3), fmt.Sprintf("r%03d\x00", 2*rows/3-1), fmt.Sprintf("r%03d", 2*rows/3))
	return fill(t, x, rows)
}

func fill(t *testing.T, x *cluster.Cluster, rows int) *cluster.Cluster {
	t.Helper()
	for i := range rows {
		c := put(fmt.Sprintf("r%03d", i), fmt.Sprint(i))
		_, _, err := x.Propose(0, x.Route(c.Row), c)
		mustErr(t, "Propose", err, api.OK)
	}
	return x
}

// apart is a node alone with rows in three of five tablets.
func apart(t *testing.T) *cluster.Cluster {
	t.Helper()
	x := alone(t, "b", "c", "d", "e")
	// The tablets 1 and 4 have none; b is the first row that the tablet 1 may have, c that of the tablet 2.
	propose(t, x, 0, put("a", "1"), put("a\xff", "2"), put("c", "3"), put("cc", "4"), put("d", "5"), put("d\xff\xff", "6"))
	return x
}

// 19.9: the rows of all tablets, one tablet behind the other, as pages of every size, forward and backward.
func TestScanIsOneTable(t *testing.T) {
	x := apart(t)
	for _, c := range []struct {
		q    api.Query
		want string
	}{
		{api.Query{}, "a a\xff c cc d d\xff\xff "},
		{api.Query{Reverse: true}, "d\xff\xff d cc c a\xff a "},
		{api.Query{From: []byte("a\xff"), To: []byte("d")}, "a\xff c cc "},
		{api.Query{From: []byte("a\xff"), To: []byte("d"), Reverse: true}, "cc c a\xff "},
		{api.Query{From: []byte("b")}, "c cc d d\xff\xff "},
		{api.Query{From: []byte("e")}, ""},
		{api.Query{To: []byte("c")}, "a a\xff "},
		{api.Query{To: []byte("c"), Reverse: true}, "a\xff a "},
		{api.Query{Where: `value > "2" and value < "6"`}, "c cc d "},
		{api.Query{Where: `value = "1" or value = "6"`, Reverse: true}, "d\xff\xff a "},
		{api.Query{Fams: []int{1}}, ""},
		{api.Query{Prefix: []byte("q")}, "a a\xff c cc d d\xff\xff "},
		{api.Query{Prefix: []byte("qq")}, ""},
	} {
		for size := 1; size <= 8; size++ {
			q := c.q
			q.Time, q.N, q.Rows = api.MaxTime, 1, size
			got := ""
			for i := 0; ; i++ {
				p, err := x.Scan(nil, 0, q)
				if err != api.OK || i > 10 || len(p.Rows) > size || !p.Done && len(p.Rows) < size {
					t.Fatalf("%+v: %s, %d", q, pageText(p), err)
				}
				got += rowsOf(p)
				if q.Token = p.Token; p.Done {
					break
				}
			}
			if got != c.want {
				t.Errorf("%+v: %q, want %q", q, got, c.want)
			}
		}
	}
}

// 19.9: each tablet is read at its own clock, all at the question's time.
func TestScanReadsAtEachClock(t *testing.T) {
	x := alone(t, "m")
	young := func(row string) api.Command {
		return api.Command{Kind: api.MMutate, Row: []byte(row), Ops: []api.Op{{Kind: api.OPut, Fam: 1, Qual: []byte("q"), Value: []byte("v")}}}
	}
	propose(t, x, 0, young("a"), young("z"))
	_, _, err := x.Propose(0, 0, api.Command{Kind: api.MTick, N: 29})
	mustErr(t, "Propose", err, api.OK)
	p, err := x.Scan(nil, 0, all)
	if err != api.OK || rowsOf(p) != "a z " {
		t.Errorf("%s, %d", pageText(p), err)
	}
	_, _, err = x.Propose(0, 0, api.Command{Kind: api.MTick, N: 1})
	mustErr(t, "Propose", err, api.OK)
	p, err = x.Scan(nil, 0, all)
	if err != api.OK || rowsOf(p) != "z " {
		t.Errorf("%s, %d", pageText(p), err)
	}
	propose(t, x, 0, young("b"))
	for time, want := range map[int]string{1: "z ", 30: "z ", 31: "b z ", api.MaxTime: "b z "} {
		q := all
		q.Time = time
		p, err = x.Scan(nil, 0, q)
		if err != api.OK || rowsOf(p) != want {
			t.Errorf("at %d: %s, %d", time, pageText(p), err)
		}
	}
}

// 19.9: what Scan refuses, in its order.
func TestScanRefuses(t *testing.T) {
	x := apart(t)
	first, err := x.Scan(nil, 0, api.Query{Time: 5, N: 1, Rows: 1})
	mustErr(t, "Scan", err, api.OK)
	closed := make(chan struct{})
	close(closed)
	for i, c := range []struct {
		done chan struct{}
		node int
		q    api.Query
		want api.Errno
	}{
		{closed, 1, api.Query{}, api.ErrNode},
		{closed, 0, api.Query{}, api.ErrClosed},
		{closed, 0, all, api.ErrClosed},
		{nil, 0, api.Query{}, api.ErrTimes},
		{nil, 0, api.Query{N: 1, Rows: 1}, api.ErrTimes},
		{nil, 0, api.Query{Time: -1, N: 1, Rows: 1}, api.ErrQuery},
		{nil, 0, api.Query{Time: api.MaxTime + 1, N: 1, Rows: 1}, api.ErrQuery},
		{nil, 0, api.Query{Time: 5}, api.ErrQuery},
		{nil, 0, api.Query{Time: 5, N: 1, Rows: 1001}, api.ErrQuery},
		{nil, 0, api.Query{Time: 5, N: 1, Rows: 1, Where: "("}, api.ErrWhere},
		{nil, 0, api.Query{Time: 5, N: 1, Rows: 1, Token: []byte("x")}, api.ErrToken},
		{nil, 0, api.Query{Time: 6, N: 1, Rows: 1, Token: first.Token}, api.ErrToken},
		{nil, 0, api.Query{Time: 5, N: 1, Rows: 9, Token: first.Token}, api.OK},
		{make(chan struct{}), 0, all, api.OK},
		{make(chan struct{}, 3), 0, all, api.OK},
	} {
		p, err := x.Scan(c.done, c.node, c.q)
		if err != c.want || err != api.OK && pageText(p) != pageText(api.Page{}) {
			t.Errorf("row %d: %s, %d, want %d", i, pageText(p), err, c.want)
		}
	}
	mustErr(t, "Arm", x.Arm(0, 1), api.OK)
	_, _, err = x.Propose(0, 0, noop)
	mustErr(t, "Propose", err, api.ErrDown)
	_, err = x.Scan(closed, 0, all)
	mustErr(t, "down and closed", err, api.ErrClosed)
	_, err = x.Scan(nil, 0, api.Query{Time: 5})
	mustErr(t, "down and no question", err, api.ErrQuery)
	_, err = x.Scan(nil, 0, all)
	mustErr(t, "down", err, api.ErrDown)
}

// 19.9: what somebody sends into done does not close it.
func TestWhatIsSentClosesNothing(t *testing.T) {
	x := apart(t)
	done := make(chan struct{}, 3)
	done <- struct{}{}
	done <- struct{}{}
	p, err := x.Scan(done, 0, all)
	if err != api.OK || len(p.Rows) != 6 {
		t.Errorf("%s, %d", pageText(p), err)
	}
	for sent := range 4 {
		done := make(chan struct{}, 3)
		for range sent {
			done <- struct{}{}
		}
		close(done)
		_, err = x.Scan(done, 0, api.Query{})
		mustErr(t, "closed behind what was sent", err, api.ErrClosed)
	}
	// One that sends again and again ends nothing, and is not waited for.
	ever, over := make(chan struct{}), make(chan struct{})
	go func() {
		for {
			select {
			case ever <- struct{}{}:
			case <-over:
				return
			}
		}
	}()
	for range 50 {
		p, err := x.Scan(ever, 0, all)
		if err != api.OK || len(p.Rows) != 6 {
			t.Fatalf("%s, %d", pageText(p), err)
		}
	}
	close(over)
}

// calmed waits till there are no more goroutines than there were.
func calmed(t *testing.T, before int) {
	t.Helper()
	for range 200 {
		if runtime.NumGoroutine() <= before {
			return
		}
		time.Sleep(time.Millisecond)
	}
	t.Errorf("%d goroutines, there were %d", runtime.NumGoroutine(), before)
}

// 19.9: wherever a scan ends, early or by an error, no goroutine is left behind.
func TestScanLeavesNoGoroutine(t *testing.T) {
	x := filled(t, 600)
	before := runtime.NumGoroutine()
	closed := make(chan struct{})
	close(closed)
	for i := range 60 {
		for _, q := range []api.Query{{Rows: 1}, {Rows: 1, Reverse: true}, {Rows: 250}, {Rows: 1000}, {Rows: 1, Where: `value = "599"`}, {Rows: 5, To: []byte("r1")}, {Rows: 1001}} {
			q.Time, q.N = api.MaxTime, 1
			if _, err := x.Scan(nil, 0, q); err != api.OK && q.Rows < 1001 {
				t.Fatalf("Scan: %d", err)
			}
		}
		_, err := x.Scan(closed, 0, all)
		mustErr(t, "Scan", err, api.ErrClosed)
		// When a call answers, all have ended: at once, not some time later.
		if n := runtime.NumGoroutine(); n > before && i > 0 {
			calmed(t, before)
		}
	}
	mustErr(t, "Flush", x.Flush(0, 0), api.OK)
	p, err := x.Scan(nil, 0, all)
	if err != api.OK || len(p.Rows) != 600 {
		t.Errorf("%d rows, %d", len(p.Rows), err)
	}
}

// 19.9: closed meanwhile, the answer is ErrClosed or the page, and nothing is left.
func TestScanClosedMeanwhile(t *testing.T) {
	x := filled(t, 900)
	want, err := x.Scan(nil, 0, all)
	mustErr(t, "Scan", err, api.OK)
	text := pageText(want)
	before := runtime.NumGoroutine()
	r := rand.New(rand.NewSource(1))
	count := map[api.Errno]int{}
	for i := range 150 {
		stop := api.NewStop()
		wait := time.Duration(r.Intn(3000)) * time.Microsecond
		if i%3 == 0 {
			wait = time.Duration(r.Intn(100)) * time.Microsecond
		}
		ended := make(chan struct{})
		go func() {
			time.Sleep(wait)
			stop.Close()
			close(ended)
		}()
		p, err := x.Scan(stop.Done(), 0, all)
		if err != api.ErrClosed && err != api.OK || err == api.OK && pageText(p) != text || err != api.OK && len(p.Rows) > 0 {
			t.Fatalf("%s, %d", pageText(p), err)
		}
		count[err]++
		<-ended
	}
	calmed(t, before)
	t.Log(count)
	if count[api.ErrClosed] == 0 {
		t.Error("done is looked at in no wait")
	}
}

// 19.9, 13.8: whatever is written, flushed, squashed or opened anew between two pages, the pages are the whole of what was there all the time.
func TestPagesOfAScan(t *testing.T) {
	for _, back := range []bool{false, true} {
		for size := 1; size < 12; size++ {
			x := alone(t, "r010", "r020")
			fill(t, x, 30)
			q := api.Query{Time: 1, N: 1, Rows: size, Reverse: back}
			var got []string
			for i := 0; i < 40; i++ {
				p, err := x.Scan(nil, 0, q)
				mustErr(t, "Scan", err, api.OK)
				got = append(got, strings.Fields(rowsOf(p))...)
				if q.Token = p.Token; p.Done {
					break
				}
				k := i % 3
				mustErr(t, "Flush", x.Flush(0, k), api.OK)
				_, err = x.Compact(0, k, true, 1000)
				mustErr(t, "Compact", err, api.OK)
				if i%4 == 1 {
					for _, other := range []int{0, 1, 2} {
						mustErr(t, "Flush", x.Flush(0, other), api.OK)
					}
					mustErr(t, "Crash", x.Crash(0), api.OK)
					mustErr(t, "Start", x.Start(0, 0), api.OK)
					lead(t, x, 0, 3)
				}
				_, _, err = x.Propose(0, k, api.Command{Kind: api.MTick, N: 1})
				mustErr(t, "Propose", err, api.OK)
				// Later versions are not seen at the question's time.
				propose(t, x, 0, put(fmt.Sprintf("r%03dx", i), "later"))
			}
			got = slices.DeleteFunc(got, func(s string) bool { return strings.HasSuffix(s, "x") })
			if back {
				slices.Reverse(got)
			}
			if len(got) != 30 || got[0] != "r000" || got[29] != "r029" || !slices.IsSorted(got) {
				t.Errorf("size %d, backward %v: %v", size, back, got)
			}
		}
	}
}
