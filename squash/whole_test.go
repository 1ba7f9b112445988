package squash_test

import (
	"fmt"
	"math/rand"
	"slices"
	"strconv"
	"testing"

	"strata/api"
	"strata/disk"
	"strata/retain"
	"strata/squash"
	"strata/tree"
)

// command is what a log has at an index.
type command struct {
	clock, low int
	l          []api.Entry
}

// story is one log, never compacted, that all nodes of a test apply.
type story struct {
	s   api.Schema
	log []command
}

// at is the command of an index, drawn if there is none yet.
func (h *story) at(r *rand.Rand, index int) command {
	for len(h.log) < index {
		last := command{clock: 1}
		if n := len(h.log); n > 0 {
			last = h.log[n-1]
		}
		c := command{clock: last.clock + r.Intn(3)}
		c.low = last.low
		if r.Intn(3) == 0 {
			c.low = min(c.clock-1, last.low+r.Intn(4))
		}
		c.l = drawCommand(r, len(h.s.Fams), c.clock, c.low, len(h.log)+1)
		if r.Intn(6) == 0 {
			c.l = nil
		}
		h.log = append(h.log, c)
	}
	return h.log[index-1]
}

// upTo is all entries of the commands 1 .. index.
func (h *story) upTo(index int) []api.Entry {
	var l []api.Entry
	for _, c := range h.log[:index] {
		l = append(l, c.l...)
	}
	return l
}

// underWay is a job, with what it must do.
type underWay struct {
	j          *squash.Job
	major      bool
	picks      []int
	index      int         // what was applied ahead of its start
	l          []api.Entry // what its picks had then
	clock, low int
	passed     int
	calm       bool // the memtable was empty, and nothing was flushed since
}

// node is a tree of its own, with the jobs and views of it.
type node struct {
	t      *testing.T
	r      *rand.Rand
	h      *story
	d      *disk.Disk
	x      *tree.Tree
	jobs   []*underWay
	views  []*tree.View
	counts map[string]int
}

func (n *node) open() {
	n.t.Helper()
	n.x = open(n.t, n.d, n.h.s)
	n.jobs, n.views = nil, nil
}

func (n *node) apply() {
	index := n.x.Applied() + 1
	c := n.h.at(n.r, index)
	mustErr(n.t, "Apply", n.x.Apply(index, c.clock, c.low, c.l...), api.OK)
}

func (n *node) flush() {
	mustErr(n.t, "Flush", n.x.Flush(nil), api.OK)
	for _, u := range n.jobs {
		u.calm = false
	}
}

// pick draws which runs a job takes, or lets Pick say it.
func (n *node) pick() ([]int, bool) {
	runs := n.x.Runs()
	if n.r.Intn(3) == 0 {
		picks, major, err := squash.Pick(drawPolicy(n.r), runs...)
		mustErr(n.t, "Pick", err, api.OK)
		return picks, major
	}
	nums := numsOf(runs)
	n.r.Shuffle(len(nums), func(i, j int) { nums[i], nums[j] = nums[j], nums[i] })
	if n.r.Intn(3) > 0 && len(nums) > 0 {
		nums = nums[:1+n.r.Intn(len(nums))]
	}
	return nums, len(nums) == len(runs) && n.r.Intn(3) > 0
}

func (n *node) start() {
	picks, major := n.pick()
	if len(picks) == 0 {
		return
	}
	u := &underWay{j: start(n.t, n.x, major, picks...), major: major, picks: picks, index: n.x.Applied(), l: entriesOf(n.t, n.x, picks...)}
	u.clock, u.low = n.x.Sealed()
	inMem, _ := n.x.Mem()
	u.calm = inMem == 0
	n.jobs = append(n.jobs, u)
}

// one is a job that is under way, or nil.
func (n *node) one() *underWay {
	if len(n.jobs) == 0 {
		return nil
	}
	return n.jobs[n.r.Intn(len(n.jobs))]
}

func (n *node) step() {
	u := n.one()
	if u == nil {
		return
	}
	count := n.r.Intn(6)
	u.passed = min(u.passed+count, len(u.l))
	all, err := u.j.Step(count)
	if all != (u.passed == len(u.l)) || err != api.OK {
		n.t.Fatalf("Step(%d): %v, %d, behind %d of %d", count, all, err, u.passed, len(u.l))
	}
}

func (n *node) abort() {
	if u := n.one(); u != nil {
		u.j.Abort()
		n.forget(u)
	}
}

func (n *node) forget(u *underWay) {
	n.jobs = slices.DeleteFunc(n.jobs, func(o *underWay) bool { return o == u })
}

// told is what a job must tell that it did, and what must stay.
func (u *underWay) told(t *testing.T, s api.Schema) (api.Squashed, []api.Entry) {
	t.Helper()
	stay, err := retain.Squash(s, u.clock, u.major, u.low, u.l...)
	mustErr(t, "Squash", err, api.OK)
	f, err := retain.NewFilter(s, u.clock, u.major, u.low)
	mustErr(t, "NewFilter", err, api.OK)
	for _, e := range u.l {
		_, err := f.Push(e)
		mustErr(t, "Push", err, api.OK)
	}
	f.End()
	return api.Squashed{In: len(u.l), Out: len(stay), Dropped: f.Dropped(), Major: u.major, Clock: u.clock, Low: u.low}, stay
}

// without is the numbers of the runs that are none of the picks.
func without(nums, picks []int) []int {
	return slices.DeleteFunc(slices.Clone(nums), func(num int) bool { return slices.Contains(picks, num) })
}

func (n *node) finish() {
	u := n.one()
	if u == nil {
		return
	}
	n.forget(u)
	before := numsOf(n.x.Runs())
	rest := without(before, u.picks)
	moved := len(before)-len(rest) != len(u.picks)
	want, stay := u.told(n.t, n.h.s)
	got, err := u.j.Finish()
	switch {
	case moved:
		if got != (api.Squashed{}) || err != api.ErrMoved || !slices.Equal(numsOf(n.x.Runs()), before) {
			n.t.Fatalf("Finish: %+v, %d, %v", got, err, n.x.Runs())
		}
		n.counts["moved"]++
		return
	case got != want || err != api.OK:
		n.t.Fatalf("Finish: %+v, %d, want %+v", got, err, want)
	}
	if sum(got.Dropped)+got.Out != got.In {
		n.t.Fatalf("%+v", got)
	}
	fresh := without(numsOf(n.x.Runs()), before)
	if len(fresh) > 1 || !sameAll(entriesOf(n.t, n.x, fresh...), stay) || !slices.Equal(without(numsOf(n.x.Runs()), fresh), rest) {
		n.t.Fatalf("runs %v, %v ahead of it, without %v: %s, want %s", numsOf(n.x.Runs()), before, u.picks, text(entriesOf(n.t, n.x, fresh...)), text(stay))
	}
	n.collected(u, got)
}

// collected: 12.9.
func (n *node) collected(u *underWay, got api.Squashed) {
	n.t.Helper()
	if !u.major {
		n.counts["minor"]++
		return
	}
	n.counts["major"]++
	if !u.calm {
		return
	}
	n.counts["calm"]++
	want, err := retain.Squash(n.h.s, got.Clock, true, got.Low, n.h.upTo(u.index)...)
	mustErr(n.t, "Squash", err, api.OK)
	runs := n.x.Runs()
	if len(runs) > 1 || !sameAll(entriesOf(n.t, n.x, numsOf(runs)...), want) {
		n.t.Fatalf("%d runs behind a major job: %s, want %s", len(runs), text(entriesOf(n.t, n.x, numsOf(runs)...)), text(want))
	}
}

// fail lets power fail within a Finish, or behind it; the tree is opened anew.
func (n *node) fail() {
	u := n.one()
	if u == nil {
		return
	}
	before := numsOf(n.x.Runs())
	n.d.Arm(1 + n.r.Intn(10))
	got, err := u.j.Finish()
	switch err {
	case api.OK:
		n.counts["finished, then down"]++
	case api.ErrDown:
		n.counts["down"]++
	default:
		mustErr(n.t, "Finish", err, api.ErrMoved)
	}
	if err != api.OK && (got != (api.Squashed{}) || !slices.Equal(numsOf(n.x.Runs()), before)) {
		n.t.Fatalf("%+v, %d, %v", got, err, n.x.Runs())
	}
	if n.x.Pins() != len(n.jobs)-1+len(n.views) {
		n.t.Fatalf("%d views are held", n.x.Pins())
	}
	after := numsOf(n.x.Runs())
	n.d.Crash(n.r.Intn(100), n.r.Intn(100))
	n.open()
	if !slices.Equal(numsOf(n.x.Runs()), after) {
		n.t.Fatalf("opened: %v, want %v", n.x.Runs(), after)
	}
}

// install takes another node's image, if that is ahead.
func (n *node) install(other *node) {
	image, err := other.x.Image()
	mustErr(n.t, "Image", err, api.OK)
	if image.Index <= n.x.Applied() {
		return
	}
	if err := n.x.Install(image); err != api.ErrClock {
		mustErr(n.t, "Install", err, api.OK)
		n.counts["installed"]++
	}
	for _, u := range n.jobs {
		u.calm = false
	}
}

// look holds what a view reads against the log, never compacted.
func (n *node) look(v *tree.View) {
	n.t.Helper()
	l, all := walk(n.t, v), n.h.upTo(v.Index())
	clock := v.Clock() + n.r.Intn(2)*n.r.Intn(5)
	what := fmt.Sprintf("%+v, clock %d, %d applied: %s, never compacted %s", n.h.s, clock, v.Index(), text(l), text(all))
	got, err := retain.Vis(n.h.s, clock, l...)
	want, _ := retain.Vis(n.h.s, clock, all...)
	if err != api.OK || !sameAll(got, want) {
		n.t.Fatalf("%s: visible %s, %d, want %s", what, text(got), err, text(want))
	}
	at, versions := n.r.Intn(clock+5), 1+n.r.Intn(3)
	got, err = retain.Read(n.h.s, clock, at, versions, l...)
	want, _ = retain.Read(n.h.s, clock, at, versions, all...)
	if err != api.OK || !sameAll(got, want) {
		n.t.Fatalf("%s: read at %d: %s, %d, want %s", what, at, text(got), err, text(want))
	}
	top, err := retain.Top(n.h.s, clock, l...)
	if least, _ := retain.Top(n.h.s, clock, all...); err != api.OK || top != least {
		n.t.Fatalf("%s: Top %d, %d, want %d", what, top, err, least)
	}
}

func (n *node) check() {
	n.t.Helper()
	if n.x.Pins() != len(n.jobs)+len(n.views) {
		n.t.Fatalf("%d views are held, of %d jobs and %d others", n.x.Pins(), len(n.jobs), len(n.views))
	}
	v := pin(n.t, n.x)
	defer v.Release()
	n.look(v)
	for _, v := range n.views {
		n.look(v)
	}
}

func (n *node) release() {
	if len(n.views) == 0 {
		return
	}
	i := n.r.Intn(len(n.views))
	n.views[i].Release()
	n.views = slices.Delete(n.views, i, i+1)
}

func (n *node) act(other *node) {
	n.t.Helper()
	switch k := n.r.Intn(40); {
	case k < 12:
		n.apply()
	case k < 17:
		if len(n.x.Runs()) < 60 {
			n.flush()
		}
	case k < 22:
		if len(n.jobs) < 5 {
			n.start()
		}
	case k < 28:
		n.step()
	case k < 33:
		n.finish()
	case k < 34:
		n.abort()
	case k < 36:
		if len(n.views) < 4 {
			n.views = append(n.views, pin(n.t, n.x))
		}
	case k < 38:
		n.release()
	case k < 39:
		n.install(other)
	default:
		n.fail()
	}
	n.check()
}

// 12.5, 12.7, 12.8, 12.9, 12.11: two nodes that apply one log, each with flushes, jobs side by side, views, images and crashes of its own: nobody sees a job, what stays is what the core says, and a major one collects.
func TestNobodySeesIt(t *testing.T) {
	counts := map[string]int{}
	for seed := range 40 {
		r := rand.New(rand.NewSource(int64(12800 + seed)))
		h := &story{s: drawSchema(r)}
		var nodes []*node
		for range 2 {
			n := &node{t: t, r: r, h: h, d: newDisk(t, 1<<20), counts: counts}
			n.open()
			nodes = append(nodes, n)
		}
		for range 250 {
			i := r.Intn(2)
			nodes[i].act(nodes[1-i])
		}
	}
	for _, what := range []string{"minor", "major", "calm", "moved", "down", "finished, then down", "installed"} {
		if counts[what] < 10 {
			t.Errorf("%s came only %d times", what, counts[what])
		}
	}
}

// 12.9: a major job with nothing in the memtable leaves just what the core does, however many minor and major ones were ahead of it.
func TestAMajorJobCollects(t *testing.T) {
	for seed := range 100 {
		r := rand.New(rand.NewSource(int64(12900 + seed)))
		h := &story{s: drawSchema(r)}
		n := &node{t: t, r: r, h: h, d: newDisk(t, 1<<20), counts: map[string]int{}}
		n.open()
		for range 6 {
			for range 1 + r.Intn(5) {
				for range 1 + r.Intn(4) {
					n.apply()
				}
				n.flush()
				if r.Intn(2) == 0 {
					n.start()
					n.finish()
				}
			}
			nums := numsOf(n.x.Runs())
			if len(nums) == 0 {
				continue
			}
			clock, low := n.x.Sealed()
			want, err := retain.Squash(h.s, clock, true, low, h.upTo(n.x.Applied())...)
			mustErr(t, "Squash", err, api.OK)
			got, err := start(t, n.x, true, nums...).Finish()
			if err != api.OK || got.Clock != clock || got.Low != low || got.Out != len(want) {
				t.Fatalf("%+v, %d", got, err)
			}
			runs := n.x.Runs()
			if len(runs) > 1 || !sameAll(entriesOf(t, n.x, numsOf(runs)...), want) {
				t.Fatalf("%d runs", len(runs))
			}
			n.check()
		}
	}
}

// 12.10: Pick and jobs, again and again, come to runs of which Pick wants none.
func TestItGetsThere(t *testing.T) {
	most := 0
	for seed := range 100 {
		r := rand.New(rand.NewSource(int64(121000 + seed)))
		h := &story{s: drawSchema(r)}
		n := &node{t: t, r: r, h: h, d: newDisk(t, 1<<20), counts: map[string]int{}}
		n.open()
		for range 1 + r.Intn(20) {
			for range 1 + r.Intn(1+r.Intn(12)) {
				n.apply()
			}
			n.flush()
		}
		p := drawPolicy(r)
		were, jobs := len(n.x.Runs()), 0
		for {
			picks, major, err := squash.Pick(p, n.x.Runs()...)
			mustErr(t, "Pick", err, api.OK)
			if len(picks) == 0 {
				break
			}
			j := start(t, n.x, major, picks...)
			if all, err := j.Run(nil, 1+r.Intn(5)); !all || err != api.OK {
				t.Fatalf("Run: %v, %d", all, err)
			}
			mustErr(t, "Finish", finish(j), api.OK)
			if jobs++; jobs > were {
				t.Fatalf("%d jobs for %d runs", jobs, were)
			}
		}
		most = max(most, jobs)
		n.check()
	}
	if most < 3 {
		t.Error("at most " + strconv.Itoa(most) + " jobs")
	}
}
