package squash_test

import (
	"fmt"
	"math"
	"slices"
	"testing"
	"time"

	"strata/api"
	"strata/retain"
	"strata/squash"
	"strata/tree"
)

// 12.2: what Start refuses, in its order; nothing is held then.
func TestStartRefuses(t *testing.T) {
	if j, err := squash.Start(nil, nil, true); j != nil || err != api.ErrArg {
		t.Errorf("no tree: %v, %d", j, err)
	}
	empty := open(t, newDisk(t, 1<<20), two(0))
	for _, major := range []bool{false, true} {
		for _, picks := range [][]int{nil, {}, {0}, {1}} {
			if j, err := squash.Start(empty, picks, major); j != nil || err != api.ErrPicks {
				t.Errorf("no run, %v: %v, %d", picks, j, err)
			}
		}
	}
	for _, way := range []string{"up", "64 views", "down"} {
		d, x := three(t, 0)
		mustErr(t, "Apply", x.Apply(4, 12, 2, list("put 9/64")...), api.OK)
		pins, free := 0, api.OK
		switch way {
		case "64 views":
			pins, free = 64, api.ErrPins
			for range pins {
				pin(t, x)
			}
		case "down":
			free = api.ErrDown
			d.Arm(1)
			d.Create("other")
		}
		for _, c := range []struct {
			picks []int
			major bool
			want  api.Errno
		}{
			{nil, false, api.ErrPicks}, {nil, true, api.ErrPicks}, {[]int{}, true, api.ErrPicks},
			{[]int{9}, false, api.ErrPicks}, {[]int{1, 9}, true, api.ErrPicks}, {[]int{1, 2, 3, 4}, true, api.ErrPicks},
			{[]int{0}, false, api.ErrPicks}, {[]int{3, 2, 1, 0}, true, api.ErrPicks}, {[]int{-1}, false, api.ErrPicks}, {[]int{math.MinInt, math.MaxInt}, true, api.ErrPicks},
			{[]int{1, 1}, false, api.ErrPicks}, {[]int{3, 2, 1, 3}, true, api.ErrPicks}, {[]int{2, 2, 2}, true, api.ErrPicks},
			{[]int{2}, true, api.ErrMajor}, {[]int{3, 1}, true, api.ErrMajor},
			{[]int{2}, false, free}, {[]int{1, 3}, false, free}, {[]int{2, 3, 1}, false, free}, {[]int{2, 3, 1}, true, free},
		} {
			j, err := squash.Start(x, c.picks, c.major)
			if err != c.want || (j == nil) != (err != api.OK) {
				t.Errorf("%s: Start(%v, %v): %v, %d, want %d", way, c.picks, c.major, j, err, c.want)
			}
			if err == api.OK {
				if x.Pins() != 1 {
					t.Errorf("a job holds %d views", x.Pins())
				}
				j.Abort()
			}
			if x.Pins() != pins {
				t.Fatalf("%s: Start(%v, %v): %d views are held", way, c.picks, c.major, x.Pins())
			}
		}
	}
}

// 12.3: steps of any length go through all, one by one, and the last one says so.
func TestStep(t *testing.T) {
	for n := 1; n < 10; n++ {
		_, x := three(t, 0)
		before := entriesOf(t, x, 1, 3)
		j := start(t, x, false, 1, 3)
		for passed := 0; passed < len(before); passed = min(passed+n, len(before)) {
			for _, none := range []int{0, -1, math.MinInt} {
				if all, err := j.Step(none); all || err != api.OK {
					t.Fatalf("Step(%d) behind %d of %d: %v, %d", none, passed, len(before), all, err)
				}
			}
			if all, err := j.Step(n); all != (passed+n >= len(before)) || err != api.OK {
				t.Fatalf("Step(%d) behind %d of %d: %v, %d", n, passed, len(before), all, err)
			}
		}
		for _, again := range []int{1, 0, -1, math.MaxInt} {
			if all, err := j.Step(again); !all || err != api.OK {
				t.Fatalf("Step(%d) behind all: %v, %d", again, all, err)
			}
		}
		if x.Pins() != 1 {
			t.Errorf("%d views are held", x.Pins())
		}
		if got, err := j.Finish(); got.In != len(before) || err != api.OK {
			t.Errorf("%+v, %d", got, err)
		}
	}
	_, x := three(t, 0)
	j := start(t, x, true, 1, 2, 3)
	if all, err := j.Step(math.MaxInt); !all || err != api.OK {
		t.Errorf("all at once: %v, %d", all, err)
	}
}

// 12.3, 12.5: the same entry in two runs is one to a step, and two to the count.
func TestTheSameInTwoRuns(t *testing.T) {
	x := open(t, newDisk(t, 1<<20), two(0))
	a, b, c, d := entry("put 9/16"), entry("put 8/17"), entry("put 7/18"), entry("put 6/19")
	image := api.Image{Index: 5, Clock: 20, Low: 1, Runs: [][]byte{
		written(t, 5, 1, 20, a, b, d),
		written(t, 4, 1, 20, b, c),
		written(t, 3, 1, 20, b, d),
	}}
	mustErr(t, "Install", x.Install(image), api.OK)
	j := start(t, x, true, 1, 2, 3)
	for i, want := range []bool{false, false, false, true} {
		if all, err := j.Step(1); all != want || err != api.OK {
			t.Errorf("step %d: %v, %d", i, all, err)
		}
	}
	want := api.Squashed{In: 7, Out: 2, Dropped: api.Dropped{Older: 3, Above: 2}, Major: true, Clock: 20, Low: 1}
	if got, err := j.Finish(); got != want || err != api.OK {
		t.Errorf("%+v, %d, want %+v", got, err, want)
	}
	if got := shown(t, x); got != "4: put 9/16, put 8/17" {
		t.Error(got)
	}
}

// 12.3, 12.11: what can't be read ends the job, by whichever call it is found, and leaves all as it was.
func TestWhatCannotBeRead(t *testing.T) {
	twice := func() *tree.Tree {
		x := open(t, newDisk(t, 1<<20), two(0))
		other := entry("put m 5/17")
		other.Value = []byte("another")
		image := api.Image{Index: 5, Clock: 20, Low: 1, Runs: [][]byte{
			written(t, 5, 1, 20, entry("put a 9/18"), entry("put b 9/16"), entry("put m 5/17")),
			written(t, 4, 1, 20, entry("put c 9/19"), other, entry("put x 9/20")),
		}}
		mustErr(t, "Install", x.Install(image), api.OK)
		return x
	}
	neighbours := func() *tree.Tree {
		x := open(t, newDisk(t, 1<<20), two(0))
		flushed(t, x, 10, 0, "put a 9/18, put b 9/16, put c 9/19, col m 5/17, put m 5/17, put x 9/20")
		flushed(t, x, 10, 0, "put z 9/32")
		return x
	}
	for _, c := range []struct {
		what string
		make func() *tree.Tree
		good int // so many are ahead of it
	}{{"two runs", twice, 3}, {"two neighbours", neighbours, 4}} {
		for good := range c.good + 1 {
			for _, call := range []string{"Step", "Run", "Finish"} {
				x := c.make()
				mine := pin(t, x)
				j := start(t, x, true, 2, 1)
				ended := false
				for range good {
					if all, err := j.Step(1); all || err != api.OK {
						mustErr(t, "a step ahead of it", err, api.ErrTwice)
						ended = true
						break
					}
				}
				if !ended {
					all, err := false, api.OK
					switch call {
					case "Step":
						all, err = j.Step(c.good - good + 1)
					case "Run":
						all, err = j.Run(nil, 1)
					case "Finish":
						var got api.Squashed
						got, err = j.Finish()
						all = got != api.Squashed{}
					}
					if all || err != api.ErrTwice {
						t.Fatalf("%s behind %d: %s: %v, %d", c.what, good, call, all, err)
					}
				}
				mustHaveEnded(t, c.what, x, j, 1)
				if n := numsOf(x.Runs()); !slices.Equal(n, []int{2, 1}) {
					t.Errorf("%s: %v", c.what, n)
				}
				mine.Release()
			}
		}
	}
}

// 12.4
func TestRun(t *testing.T) {
	closed := make(chan struct{})
	close(closed)
	for _, n := range []int{math.MinInt, -1, 0, 1, 2, 3, 5, 100, math.MaxInt} {
		_, x := three(t, 0)
		before := len(entriesOf(t, x, 2, 1))
		j := start(t, x, false, 2, 1)
		for range 3 {
			if all, err := j.Run(closed, n); all || err != api.OK {
				t.Fatalf("done is closed: %v, %d", all, err)
			}
		}
		// No step was done.
		for passed := 1; passed < before; passed++ {
			if all, err := j.Step(1); all || err != api.OK {
				t.Fatalf("Step behind a Run that did nothing: %v, %d", all, err)
			}
		}
		for _, done := range []chan struct{}{nil, make(chan struct{}), nil} {
			if all, err := j.Run(done, n); !all || err != api.OK {
				t.Fatalf("Run(%d): %v, %d", n, all, err)
			}
		}
		if all, err := j.Run(closed, n); all || err != api.OK {
			t.Errorf("done is closed, and all is gone through: %v, %d", all, err)
		}
		if all, err := j.Step(0); !all || err != api.OK {
			t.Errorf("Step: %v, %d", all, err)
		}
		if got, err := j.Finish(); got.In != before || err != api.OK {
			t.Errorf("%+v, %d", got, err)
		}
		mustHaveEnded(t, "finished", x, j, 0)
	}
}

// 12.4: what is sent into done does not close it, and hides no closing.
func TestRunIsEndedByTheClosingAlone(t *testing.T) {
	_, x := three(t, 0)
	j := start(t, x, false, 2, 1)
	done := make(chan struct{}, 3)
	done <- struct{}{}
	done <- struct{}{}
	close(done)
	if all, err := j.Run(done, 100); all || err != api.OK {
		t.Errorf("closed behind what was sent: %v, %d", all, err)
	}
	done = make(chan struct{}, 3)
	done <- struct{}{}
	done <- struct{}{}
	if all, err := j.Run(done, 1); !all || err != api.OK {
		t.Errorf("not closed: %v, %d", all, err)
	}
}

// long is a tree with two runs of many entries.
func long(t *testing.T) *tree.Tree {
	d := newDisk(t, 1<<24)
	x, err := tree.Open(d, "t", two(0), api.Options{Block: 4096, Bits: 8, Mem: 1 << 20, Stall: 64})
	mustErr(t, "Open", err, api.OK)
	for index := 1; index <= 1000; index++ {
		var l []api.Entry
		for op := range 16 {
			l = append(l, entry(fmt.Sprintf("put %04d 5/%d", index*37%1000, 16*index+op)))
			l[op].Qual = []byte{'a' + byte(op)}
		}
		mustErr(t, "Apply", x.Apply(index, 9, 0, l...), api.OK)
		if index%500 == 0 {
			mustErr(t, "Flush", x.Flush(nil), api.OK)
		}
	}
	return x
}

// 12.4: closed meanwhile, Run ends behind some step, and goes on later where it was.
func TestRunClosedMeanwhile(t *testing.T) {
	x := long(t)
	want, err := retain.Squash(two(0), 9, true, 0, entriesOf(t, x, 1, 2)...)
	mustErr(t, "Squash", err, api.OK)
	j := start(t, x, true, 2, 1)
	left := 0
	for wait := time.Microsecond; ; wait *= 2 {
		stop := api.NewStop()
		timer := time.AfterFunc(wait, stop.Close)
		all, err := j.Run(stop.Done(), 1)
		timer.Stop()
		mustErr(t, "Run", err, api.OK)
		if all {
			break
		}
		left++
	}
	if left == 0 {
		t.Error("it was never left early")
	}
	if got, err := j.Finish(); got.In != 16000 || got.Out != len(want) || err != api.OK {
		t.Errorf("%+v, %d", got, err)
	}
	if !sameAll(entriesOf(t, x, 3), want) {
		t.Error("not what a squash leaves")
	}
}

// 12.5: what a job tells that it did, and what stays; for each reason that drops something.
func TestFinish(t *testing.T) {
	for _, c := range []struct {
		what  string
		ttl   int
		picks []int
		major bool
		want  api.Squashed
		stays string
	}{
		{"run 1 alone", 0, []int{1}, false, api.Squashed{In: 3, Out: 3}, "3: fam a 3/50, put b 8/49, col 6/48; 2: cell 7/33, put 6/32; 4: put a 5/18, put 9/16, put 7/17"},
		{"a husk, and one above Max", 0, []int{1, 2}, false, api.Squashed{In: 5, Out: 3, Dropped: api.Dropped{Older: 1, Above: 1}}, "3: fam a 3/50, put b 8/49, col 6/48; 4: put a 5/18, put 9/16, husk 7/33"},
		{"masked", 0, []int{3, 2}, false, api.Squashed{In: 5, Out: 4, Dropped: api.Dropped{Masked: 1}}, "4: fam a 3/50, put b 8/49, col 6/48, cell 7/33; 1: put a 5/18, put 9/16, put 7/17"},
		{"not neighbours", 0, []int{3, 1}, false, api.Squashed{In: 6, Out: 6}, "4: fam a 3/50, put a 5/18, put b 8/49, col 6/48, put 9/16, put 7/17; 2: cell 7/33, put 6/32"},
		{"expired", 5, []int{1, 2}, false, api.Squashed{In: 5, Out: 1, Dropped: api.Dropped{Older: 1, Expired: 3}}, "3: fam a 3/50, put b 8/49, col 6/48; 4: put 9/16"},
		{"all, a minor one", 0, []int{1, 2, 3}, false, api.Squashed{In: 8, Out: 6, Dropped: api.Dropped{Older: 1, Masked: 1}}, "4: fam a 3/50, put a 5/18, put b 8/49, col 6/48, put 9/16, husk 7/33"},
		{"all, a major one", 0, []int{2, 1, 3}, true, api.Squashed{In: 8, Out: 6, Dropped: api.Dropped{Older: 1, Masked: 1}, Major: true}, "4: fam a 3/50, put a 5/18, put b 8/49, col 6/48, put 9/16, husk 7/33"},
	} {
		for _, n := range []int{0, 1, 3, 100} {
			d, x := three(t, c.ttl)
			j := start(t, x, c.major, c.picks...)
			j.Step(n)
			got, err := j.Finish()
			c.want.Clock, c.want.Low = 12, 2
			if got != c.want || err != api.OK {
				t.Errorf("%s: %+v, %d, want %+v", c.what, got, err, c.want)
			}
			if got := shown(t, x); got != c.stays {
				t.Errorf("%s: %s, want %s", c.what, got, c.stays)
			}
			mustHaveEnded(t, c.what, x, j, 0)
			if len(d.List("tRUN-")) != len(x.Runs()) {
				t.Errorf("%s: files %q", c.what, d.List(""))
			}
		}
	}
}

// 12.5: marks that a major job drops, and one that goes though it is above low.
func TestMarks(t *testing.T) {
	for _, c := range []struct {
		major bool
		want  api.Squashed
		stays string
	}{
		{false, api.Squashed{In: 6, Out: 4, Dropped: api.Dropped{Older: 1, Marks: 1}}, "3: fam 6/19, col b 9/18, cell 9/33, cell a 8/16"},
		{true, api.Squashed{In: 6, Out: 1, Dropped: api.Dropped{Older: 1, Marks: 4}, Major: true}, "3: col b 9/18"},
	} {
		x := open(t, newDisk(t, 1<<20), two(0))
		flushed(t, x, 10, 0, "cell a 8/16, col 4/17, col b 9/18, fam 6/19")
		flushed(t, x, 11, 0, "cell 9/32, cell 9/33")
		mustErr(t, "Apply", x.Apply(3, 11, 8), api.OK)
		mustErr(t, "Flush", x.Flush(nil), api.OK)
		j := start(t, x, c.major, 1, 2)
		got, err := j.Finish()
		c.want.Clock, c.want.Low = 11, 8
		if got != c.want || err != api.OK {
			t.Errorf("%+v, %d, want %+v", got, err, c.want)
		}
		want := list(c.stays[3:])
		want, _ = retain.Sort(want...)
		if got := entriesOf(t, x, 3); !sameAll(got, want) {
			t.Errorf("%s, want %s", text(got), text(want))
		}
	}
}

// 12.5: if nothing stays, the picks go and no run comes.
func TestNothingStays(t *testing.T) {
	for _, major := range []bool{false, true} {
		d := newDisk(t, 1<<20)
		x := open(t, d, two(3))
		flushed(t, x, 3, 1, "put 2/16, put 3/17")
		flushed(t, x, 9, 2, "put 4/32")
		j := start(t, x, major, 1, 2)
		want := api.Squashed{In: 3, Dropped: api.Dropped{Expired: 3}, Major: major, Clock: 9, Low: 2}
		if got, err := j.Finish(); got != want || err != api.OK {
			t.Errorf("%+v, %d, want %+v", got, err, want)
		}
		if len(x.Runs()) > 0 || len(d.List("tRUN-")) > 0 {
			t.Errorf("%v, %q", x.Runs(), d.List(""))
		}
		flushed(t, x, 9, 2, "put 9/48")
		if got := shown(t, x); got != "3: put 9/48" {
			t.Error(got)
		}
	}
}

// 12.2: the job's clock and low are those that the tree had sealed when it started: not what was applied since, nor what the picked runs were sealed with, nor what is sealed later.
func TestClockAndLow(t *testing.T) {
	x := open(t, newDisk(t, 1<<20), two(5))
	flushed(t, x, 6, 1, "put 3/16, put 6/17")
	flushed(t, x, 7, 2, "put a 6/32")
	mustErr(t, "Apply", x.Apply(3, 8, 3), api.OK)
	mustErr(t, "a Flush without a run", x.Flush(nil), api.OK)
	mustErr(t, "Apply", x.Apply(4, 30, 10, list("put c 20/64")...), api.OK)
	j := start(t, x, false, 1)
	mustErr(t, "Flush", x.Flush(nil), api.OK)
	k := start(t, x, false, 2)
	mustErr(t, "Apply", x.Apply(5, 31, 11), api.OK)
	mustErr(t, "Flush", x.Flush(nil), api.OK)
	want := api.Squashed{In: 2, Out: 1, Dropped: api.Dropped{Expired: 1}, Clock: 8, Low: 3}
	if got, err := j.Finish(); got != want || err != api.OK {
		t.Errorf("%+v, %d, want %+v", got, err, want)
	}
	want = api.Squashed{In: 1, Out: 0, Dropped: api.Dropped{Expired: 1}, Clock: 30, Low: 10}
	if got, err := k.Finish(); got != want || err != api.OK {
		t.Errorf("%+v, %d, want %+v", got, err, want)
	}
	if got := shown(t, x); got != "3: put c 20/64; 4: put 6/17" {
		t.Error(got)
	}

	image, err := x.Image()
	mustErr(t, "Image", err, api.OK)
	y := open(t, newDisk(t, 1<<20), two(5))
	image.Index, image.Clock, image.Low = 9, 40, 33
	mustErr(t, "Install", y.Install(image), api.OK)
	want = api.Squashed{In: 2, Dropped: api.Dropped{Expired: 2}, Major: true, Clock: 40, Low: 33}
	if got, err := start(t, y, true, 1, 2).Finish(); got != want || err != api.OK {
		t.Errorf("installed: %+v, %d, want %+v", got, err, want)
	}
}

// 12.5: a run of a job that is not there any more.
func TestMoved(t *testing.T) {
	for _, c := range []struct {
		what string
		do   func(x *tree.Tree) api.Errno
	}{
		{"another job", func(x *tree.Tree) api.Errno {
			_, err := start(t, x, false, 2, 3).Finish()
			return err
		}},
		{"a job of one of them", func(x *tree.Tree) api.Errno {
			_, err := start(t, x, false, 2).Finish()
			return err
		}},
		{"Replace", func(x *tree.Tree) api.Errno { return x.Replace([]int{1}) }},
		{"Install", func(x *tree.Tree) api.Errno {
			return x.Install(api.Image{Index: 9, Clock: 30, Low: 10, Runs: [][]byte{written(t, 9, 10, 30, entry("put 11/99"))}})
		}},
	} {
		for _, major := range []bool{false, true} {
			d, x := three(t, 0)
			picks := []int{1, 2}
			if major {
				picks = []int{1, 2, 3}
			}
			j := start(t, x, major, picks...)
			j.Step(2)
			mustErr(t, c.what, c.do(x), api.OK)
			was := shown(t, x)
			j.Step(2)
			held := len(d.List("tRUN-"))
			acts := d.Counts().Acts
			if got, err := j.Finish(); got != (api.Squashed{}) || err != api.ErrMoved {
				t.Errorf("%s: %+v, %d", c.what, got, err)
			}
			mustHaveEnded(t, c.what, x, j, 0)
			gone := held - len(x.Runs())
			if now := shown(t, x); now != was || d.Counts().Acts != acts+gone || len(d.List("tRUN-")) != len(x.Runs()) {
				t.Errorf("%s: %s, was %s; %q", c.what, now, was, d.List(""))
			}
		}
	}
}

// 12.6, 12.11: a job that is broken off leaves no trace, wherever it was.
func TestAbort(t *testing.T) {
	for n := range 10 {
		d, x := three(t, 0)
		was := d.Files()
		mine := pin(t, x)
		j, other := start(t, x, true, 1, 2, 3), start(t, x, false, 2)
		j.Step(n)
		j.Abort()
		mustHaveEnded(t, "aborted", x, j, 2)
		if !sameFiles(d.Files(), was) {
			t.Errorf("%q", names(d.Files()))
		}
		if _, err := other.Finish(); err != api.OK {
			t.Errorf("another job: %d", err)
		}
		mine.Release()
		mustHaveEnded(t, "aborted", x, j, 0)
		if got := len(d.List("tRUN-")); got != 3 {
			t.Errorf("%q", d.List(""))
		}
	}
}

// 12.6: what only the job's view has held goes when it ends.
func TestAbortLetsFilesGo(t *testing.T) {
	d, x := three(t, 0)
	j := start(t, x, false, 1, 2)
	mustErr(t, "Replace", x.Replace([]int{2}), api.OK)
	if l := d.List("tRUN-"); len(l) != 3 {
		t.Errorf("%q", l)
	}
	j.Abort()
	if l := d.List("tRUN-"); !slices.Equal(l, []string{"tRUN-1", "tRUN-3"}) {
		t.Errorf("%q", l)
	}
}

// 12.7: a job goes through what its view holds, and its run comes in the place of its picks, whatever happens meanwhile.
func TestMeanwhile(t *testing.T) {
	_, x := three(t, 0)
	mustErr(t, "Apply", x.Apply(4, 13, 2, list("put 8/64, put n 8/65")...), api.OK)
	j := start(t, x, false, 1, 2)
	j.Step(2)
	mustErr(t, "Flush", x.Flush(nil), api.OK)
	flushed(t, x, 14, 3, "put 9/80, col a 9/81")
	j.Step(1)
	if _, err := start(t, x, false, 5, 4).Finish(); err != api.OK {
		t.Error(err)
	}
	mustErr(t, "Apply", x.Apply(6, 15, 4, list("fam 15/96")...), api.OK)
	want := api.Squashed{In: 5, Out: 3, Dropped: api.Dropped{Older: 1, Above: 1}, Clock: 12, Low: 2}
	if got, err := j.Finish(); got != want || err != api.OK {
		t.Errorf("%+v, %d, want %+v", got, err, want)
	}
	if got := shown(t, x); got != "6: col a 9/81, put n 8/65, put 9/80, put 8/64; 3: fam a 3/50, put b 8/49, col 6/48; 7: put a 5/18, put 9/16, husk 7/33" {
		t.Error(got)
	}
	if n, _ := x.Mem(); n != 1 || x.Applied() != 6 || x.Clock() != 15 || x.Low() != 4 {
		t.Errorf("%d in the memtable, Applied %d, Clock %d, Low %d", n, x.Applied(), x.Clock(), x.Low())
	}
	if m := x.Runs()[2]; m.Index != 2 || m.Low != 1 || m.Clock != 11 {
		t.Errorf("%+v", m)
	}
}
