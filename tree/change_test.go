package tree_test

import (
	"bytes"
	"fmt"
	"math"
	"slices"
	"testing"

	"strata/api"
	"strata/disk"
	"strata/tree"
)

// 11.3: runs come ahead of one another, and a Flush of nothing moves the version alone.
func TestFlush(t *testing.T) {
	d := newDisk(t, 1<<20)
	x := open(t, d, "t")
	m := newModel("t", options())
	flush := func(state []byte, acts int) {
		t.Helper()
		before := d.Counts().Acts
		mustErr(t, "Flush", x.Flush(state), api.OK)
		m = m.flush(t, state)
		mustBe(t, "flushed", x, m)
		mustHave(t, "flushed", d, m)
		mustSee(t, "flushed", pin(t, x), m)
		if n := d.Counts().Acts - before; n != acts {
			t.Errorf("%d acts, want %d", n, acts)
		}
	}
	apply := func(clock, low int, l ...api.Entry) {
		t.Helper()
		index := m.applied + 1
		mustErr(t, "Apply", x.Apply(index, clock, low, l...), api.OK)
		m = m.apply(index, clock, low, l)
	}
	flush(nil, 4)
	apply(5, 0)
	flush([]byte("no entry yet"), 4)
	apply(5, 2, p("b", 9, 2), with(p("a", 9, 2), func(e *api.Entry) { e.Seq++ }))
	apply(6, 2, p("b", 9, 3))
	flush([]byte("one"), 7)
	flush([]byte("again"), 4)
	apply(9, 8)
	flush(make([]byte, 131072), 4)
	apply(9, 8, p("b", 9, 5))
	flush(nil, 7)
	if got := fmt.Sprint(m.nums()); got != "[2 1]" {
		t.Errorf("runs %s", got)
	}
	mustBe(t, "opened", open(t, d, "t"), m.reopened())
}

// 11.3: what refuses a Flush ahead of all writing.
func TestFlushRefuses(t *testing.T) {
	d := newDisk(t, 1<<22)
	x := open(t, d, "t")
	m := newModel("t", options())
	for i := 1; i <= 64; i++ {
		e := p("a", 3, i)
		mustErr(t, "Apply", x.Apply(i, 5, 0, e), api.OK)
		mustErr(t, "Flush", x.Flush(nil), api.OK)
		m = m.apply(i, 5, 0, []api.Entry{e}).flush(t, nil)
	}
	mustErr(t, "Apply", x.Apply(65, 5, 0), api.OK)
	mustErr(t, "nothing to write beside 64 runs", x.Flush([]byte("s")), api.OK)
	m = m.apply(65, 5, 0, nil).flush(t, []byte("s"))
	last := p("b", 3, 66)
	mustErr(t, "Apply", x.Apply(66, 5, 0, last), api.OK)
	m = m.apply(66, 5, 0, []api.Entry{last})
	acts := d.Counts().Acts
	mustErr(t, "a long state", x.Flush(make([]byte, 131073)), api.ErrState)
	mustErr(t, "64 runs", x.Flush(make([]byte, 131072)), api.ErrFull)
	mustBe(t, "refused", x, m)
	mustHave(t, "refused", d, m)
	if d.Counts().Acts != acts {
		t.Error("a refused Flush wrote something")
	}
	v := pin(t, x)
	mustSee(t, "64 runs and a memtable", v, m)
	if l := rows(t, v, "", "", false); !slices.Equal(l, []string{"a", "b"}) {
		t.Errorf("%q", l)
	}
	mustErr(t, "Replace", x.Replace(m.nums()[10:12], p("a", 3, 54)), api.OK)
	mustErr(t, "there is room again", x.Flush(nil), api.OK)
}

// 11.3, 11.4: more than one run can hold stays in memory, and takes no run's place.
func TestTooMuchForOneRun(t *testing.T) {
	d := newDisk(t, 1<<26)
	x, err := tree.Open(d, "t", one(), api.Options{Block: 65536, Bits: 10, Mem: 1 << 22, Stall: 64})
	mustErr(t, "Open", err, api.OK)
	value := bytes.Repeat([]byte("v"), 4096)
	index := 1
	mustErr(t, "Apply", x.Apply(index, 5, 0, p("a", 3, 1)), api.OK)
	mustErr(t, "Flush", x.Flush(nil), api.OK)
	was := d.Files()
	var much []api.Entry
	for _, b := x.Mem(); b <= 1<<24+1<<17; _, b = x.Mem() {
		index++
		var l []api.Entry
		for op := range 16 {
			l = append(l, api.Entry{Row: []byte(fmt.Sprint(index)), Ts: 3, Seq: 16*index + op, Kind: api.KPut, Value: value})
		}
		mustErr(t, "Apply", x.Apply(index, 5, 0, l...), api.OK)
		for _, e := range l {
			much = append(much, with(e, func(e *api.Entry) { e.Seq = 0; e.Ts = 1 + len(much) }))
		}
	}
	n, _ := x.Mem()
	mustErr(t, "Flush", x.Flush(nil), api.ErrLong)
	mustErr(t, "Replace", x.Replace([]int{1}, inOrder(much)...), api.ErrLong)
	if again, _ := x.Mem(); again != n || x.Flushed() != 1 || len(x.Runs()) != 1 || !sameFiles(d.Files(), was) || d.Counts().Acts != 7 {
		t.Error("all is as before")
	}
	mustErr(t, "it goes on", x.Apply(index+1, 5, 0), api.OK)
	if l := rows(t, pin(t, x), "", "", false); len(l) != index {
		t.Errorf("%d rows", len(l))
	}
}

// 11.4: whichever runs go, the new one stands where the newest of them stood.
func TestReplace(t *testing.T) {
	for _, olds := range [][]int{{1}, {2}, {3}, {1, 2}, {2, 1}, {3, 1}, {1, 3}, {2, 3}, {3, 1, 2}, {1, 2, 3}} {
		for _, none := range []bool{false, true} {
			d, x, m := three(t)
			mustErr(t, "Apply", x.Apply(4, 9, 3, p("z", 9, 4)), api.OK)
			m = m.apply(4, 9, 3, []api.Entry{p("z", 9, 4)})
			var l []api.Entry
			for _, r := range m.runs {
				if slices.Contains(olds, r.meta.Num) && !none {
					l = append(l, r.l[1:]...)
				}
			}
			l = inOrder(l)
			before := d.Counts()
			mustErr(t, "Replace", x.Replace(olds, l...), api.OK)
			m = m.replace(t, olds, l)
			what := fmt.Sprintf("Replace(%d) by %d", olds, len(l))
			mustBe(t, what, x, m)
			mustHave(t, what, d, m)
			mustSee(t, what, pin(t, x), m)
			acts := 4 + len(olds)
			if len(l) > 0 {
				acts += 3
			}
			if after := d.Counts(); after.Acts-before.Acts != acts || after.Deletes != len(olds) {
				t.Errorf("%s: %+v behind %+v", what, after, before)
			}
			mustBe(t, "opened", open(t, d, "t"), m.reopened())
		}
	}
}

// 11.4: in this order, and nothing is changed.
func TestReplaceRefuses(t *testing.T) {
	d, x, m := three(t)
	acts := d.Counts().Acts
	wrong := api.Entry{}
	for _, olds := range [][]int{nil, {}, {0}, {-1}, {4}, {1, 4}, {4, 1}, {1, 1}, {2, 1, 2}, {3, 2, 1, 1}, {math.MinInt}, {math.MaxInt, 1}, make([]int, 1<<20)} {
		for _, l := range [][]api.Entry{nil, {wrong}, {p("a", 3, 1)}} {
			mustErr(t, fmt.Sprintf("Replace(%.20v)", fmt.Sprint(olds)), x.Replace(olds, l...), api.ErrNoRun)
		}
	}
	good := p("b", 5, 2)
	other := p("b", 5, 3) // stands ahead of good, and is above the index
	for i, k := range []struct {
		l    []api.Entry
		want api.Errno
	}{
		{[]api.Entry{wrong}, api.ErrRow},
		{[]api.Entry{good, with(other, func(e *api.Entry) { e.Ts = 0 })}, api.ErrTs},
		{[]api.Entry{good, with(other, func(e *api.Entry) { e.Fam = 1; e.Row = []byte("a") })}, api.ErrFam},
		{[]api.Entry{good, with(other, func(e *api.Entry) { e.Fam = 9 })}, api.ErrFam},
		{[]api.Entry{good, other}, api.ErrOrder},
		{[]api.Entry{good, good}, api.ErrOrder},
		{[]api.Entry{good, with(good, func(e *api.Entry) { e.Value = nil })}, api.ErrOrder},
		{[]api.Entry{good, with(other, func(e *api.Entry) { e.Row = []byte("c") })}, api.ErrSeq},
		{[]api.Entry{other, good}, api.ErrSeq},
		{[]api.Entry{other, wrong}, api.ErrSeq},
		{[]api.Entry{with(good, func(e *api.Entry) { e.Seq = 1<<44 + 15 })}, api.ErrSeq},
		{[]api.Entry{with(good, func(e *api.Entry) { e.Seq = 48 })}, api.ErrSeq},
		{[]api.Entry{good, p("a", 5, 1), wrong}, api.ErrOrder},
		{[]api.Entry{good, good, wrong}, api.ErrOrder},
	} {
		for _, olds := range [][]int{{2}, {1, 2}, {2, 1}} {
			mustErr(t, fmt.Sprintf("entries %d", i), x.Replace(olds, k.l...), k.want)
		}
	}
	mustBe(t, "refused", x, m)
	mustHave(t, "refused", d, m)
	if d.Counts().Acts != acts {
		t.Error("a refused Replace wrote something")
	}
	edge := with(good, func(e *api.Entry) { e.Seq = 47; e.Kind, e.Value = api.KHusk, nil })
	mustErr(t, "the last Seq of the index, and a husk", x.Replace([]int{1, 2}, edge), api.OK)
	m = m.replace(t, []int{1, 2}, []api.Entry{edge})
	mustBe(t, "replaced", x, m)
	mustSee(t, "replaced", pin(t, x), m)
}

// deletes is the names of files that went, in the order in which they did: an armed disk tells it.
func deletes(t testing.TB, start func() (*disk.Disk, func()), first, last int) []string {
	t.Helper()
	var out []string
	var there []string
	for n := first; n <= last+1; n++ {
		d, do := start()
		d.Arm(n)
		do()
		d.Arm(0)
		now := d.List("")
		for _, name := range there {
			if !slices.Contains(now, name) {
				out = append(out, name)
			}
		}
		there = now
	}
	return out
}

// 11.4, 11.7: by falling number.
func TestOldRunsGoByFallingNumber(t *testing.T) {
	want := []string{"tRUN-3", "tRUN-2", "tRUN-1"}
	for _, k := range []struct {
		what  string
		start func() (*disk.Disk, func())
		first int
	}{
		{"Replace", func() (*disk.Disk, func()) {
			d, x, _ := three(t)
			return d, func() { x.Replace([]int{2, 3, 1}, p("a", 3, 1)) }
		}, 8},
		{"Install", func() (*disk.Disk, func()) {
			d, x, _ := three(t)
			return d, func() { x.Install(api.Image{Index: 4, Clock: 10, Low: 5}) }
		}, 5},
		{"Release", func() (*disk.Disk, func()) {
			d, x, _ := three(t)
			v, w := pin(t, x), pin(t, x)
			mustErr(t, "Replace", x.Replace([]int{1}), api.OK)
			mustErr(t, "Replace", x.Replace([]int{3}), api.OK)
			mustErr(t, "Replace", x.Replace([]int{2}), api.OK)
			w.Release()
			return d, v.Release
		}, 1},
	} {
		if got := deletes(t, k.start, k.first, k.first+2); !slices.Equal(got, want) {
			t.Errorf("%s: %q", k.what, got)
		}
	}
}

// 11.4: a file stays as long as a view names its run, and no longer.
func TestFilesStayForViews(t *testing.T) {
	d, x, m := three(t)
	v := pin(t, x)
	was := m
	mustErr(t, "Replace", x.Replace([]int{3, 2}, m.runs[0].l...), api.OK)
	m = m.replace(t, []int{3, 2}, m.runs[0].l)
	mustHave(t, "a view names 3, 2, 1", d, m, was)
	w := pin(t, x)
	between := m
	mustErr(t, "Replace", x.Replace([]int{4}), api.OK)
	m = m.replace(t, []int{4}, nil)
	mustHave(t, "another one names 4, 1", d, m, was, between)
	v.Release()
	mustHave(t, "the first one is released", d, m, between)
	v.Release()
	mustHave(t, "once more", d, m, between)
	y := pin(t, x)
	at := m
	mustErr(t, "Install", x.Install(api.Image{Index: 9, Clock: 20, Low: 9}), api.OK)
	m = m.install(t, api.Image{Index: 9, Clock: 20, Low: 9})
	mustHave(t, "4, 1 and 1 are named", d, m, between, at)
	y.Release()
	mustHave(t, "4, 1 are named", d, m, between)
	w.Release()
	mustHave(t, "none is named", d, m)
	if x.Pins() != 0 {
		t.Errorf("Pins %d", x.Pins())
	}
}

// 11.5: what views held when a tree was let go of is swept.
func TestWhatViewsHeldIsSwept(t *testing.T) {
	d, x, m := three(t)
	pin(t, x)
	mustErr(t, "Replace", x.Replace([]int{1, 2}), api.OK)
	was := m
	m = m.replace(t, []int{1, 2}, nil)
	mustHave(t, "held", d, m, was)
	mustBe(t, "opened", open(t, d, "t"), m.reopened())
	mustHave(t, "opened", d, m)
}
