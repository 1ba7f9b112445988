package tree_test

import (
	"fmt"
	"math"
	"slices"
	"testing"

	"strata/api"
	"strata/tree"
)

// at is a tree of two families at an index, a clock and a low, with one entry in its memtable, and its model.
func at(t testing.TB, index, clock, low int) (*tree.Tree, model) {
	t.Helper()
	m := newModel("t", options())
	m.gen, m.next, m.flushed, m.sealedClock, m.sealed = 3, 1, index-1, 1, 0
	x, err := tree.Open(load(t, 1<<20, m.files(t)...), "t", families(2), options())
	mustErr(t, "Open", err, api.OK)
	e := p("a", low+1, index)
	mustErr(t, "Apply", x.Apply(index, clock, low, e), api.OK)
	m = m.reopened().apply(index, clock, low, []api.Entry{e})
	mustBe(t, "at", x, m)
	return x, m
}

// 11.2: indices, clocks and lows.
func TestApplyInTurn(t *testing.T) {
	for _, k := range []struct {
		index, clock, low int
		want              api.Errno
	}{
		{8, 20, 10, api.OK}, {8, 20, 19, api.OK}, {8, 1 << 40, 1<<40 - 1, api.OK}, {8, 21, 10, api.OK},
		{7, 20, 10, api.ErrIndex}, {9, 20, 10, api.ErrIndex}, {0, 20, 10, api.ErrIndex}, {-8, 20, 10, api.ErrIndex},
		{math.MinInt, 20, 10, api.ErrIndex}, {math.MaxInt, 20, 10, api.ErrIndex},
		{8, 19, 10, api.ErrClock}, {8, 1<<40 + 1, 10, api.ErrClock}, {8, 20, 9, api.ErrClock}, {8, 20, 20, api.ErrClock}, {8, 20, 21, api.ErrClock},
		{8, 1<<40 + 1, 1 << 40, api.ErrClock}, {8, 20, -1, api.ErrClock}, {8, 0, 0, api.ErrClock},
		{8, math.MinInt, math.MinInt, api.ErrClock}, {8, math.MaxInt, math.MaxInt, api.ErrClock}, {8, math.MinInt, 10, api.ErrClock}, {8, 20, math.MinInt, api.ErrClock},
		{9, 19, 9, api.ErrIndex},
	} {
		x, m := at(t, 7, 20, 10)
		what := fmt.Sprintf("Apply(%d, %d, %d)", k.index, k.clock, k.low)
		mustErr(t, what, x.Apply(k.index, k.clock, k.low), k.want)
		if k.want == api.OK {
			m = m.apply(k.index, k.clock, k.low, nil)
		}
		mustBe(t, what, x, m)
	}
	x, m := at(t, 1<<40-1, 20, 10)
	last := with(p("b", 11, 1<<40), func(e *api.Entry) { e.Seq = 1<<44 + 15 })
	mustErr(t, "the last index", x.Apply(1<<40, 20, 10, last), api.OK)
	m = m.apply(1<<40, 20, 10, []api.Entry{last})
	mustErr(t, "behind the last index", x.Apply(1<<40+1, 20, 10), api.ErrIndex)
	mustBe(t, "the last index", x, m)
}

// 11.2: what may be wrong with an entry, in the order in which it is told: each of these is wrong in all that stands behind it, too.
func TestApplyOfWrongEntries(t *testing.T) {
	husk := p("a", 10, 9)
	husk.Kind, husk.Value, husk.Fam = api.KHusk, nil, 2
	cases := []struct {
		e    api.Entry
		want api.Errno
	}{
		{with(husk, func(e *api.Entry) { e.Row = nil }), api.ErrRow},
		{with(husk, func(e *api.Entry) { e.Fam = 8 }), api.ErrFam},
		{with(husk, func(e *api.Entry) { e.Fam = -1 }), api.ErrFam},
		{with(husk, func(e *api.Entry) { e.Qual = make([]byte, 257) }), api.ErrQual},
		{with(husk, func(e *api.Entry) { e.Ts = 0 }), api.ErrTs},
		{with(husk, func(e *api.Entry) { e.Seq = -1 }), api.ErrSeq},
		{with(husk, func(e *api.Entry) { e.Kind = 6 }), api.ErrKind},
		{with(husk, func(e *api.Entry) { e.Value = []byte("v") }), api.ErrValue},
		{husk, api.ErrFam},
		{with(husk, func(e *api.Entry) { e.Fam = 1 }), api.ErrTs},
		{with(husk, func(e *api.Entry) { e.Fam, e.Ts = 1, 1 }), api.ErrTs},
		{with(husk, func(e *api.Entry) { e.Fam, e.Ts = 1, 11 }), api.ErrSeq},
		{with(husk, func(e *api.Entry) { e.Fam, e.Ts, e.Seq = 1, 11, 8*16-1 }), api.ErrSeq},
		{with(husk, func(e *api.Entry) { e.Fam, e.Ts, e.Seq = 1, 11, 0 }), api.ErrSeq},
		{with(husk, func(e *api.Entry) { e.Fam, e.Ts, e.Seq = 1, 11, 1<<44+15 }), api.ErrSeq},
		{with(husk, func(e *api.Entry) { e.Fam, e.Ts, e.Seq = 1, 11, 8*16 }), api.ErrKind},
	}
	good := with(p("a", 11, 8), func(e *api.Entry) { e.Seq += 15; e.Fam = 1 })
	for i, k := range cases {
		x, m := at(t, 7, 20, 10)
		for _, l := range [][]api.Entry{{k.e}, {good, k.e}, {good, good, k.e}, {k.e, cases[(i+3)%len(cases)].e}} {
			mustErr(t, fmt.Sprintf("entry %d", i), x.Apply(8, 20, 10, l...), k.want)
			mustBe(t, "it is refused", x, m)
			mustSee(t, "it is refused", pin(t, x), m)
		}
	}
}

// 11.2: of what may be applied all is taken, in whatever order it comes; two of one key are not.
func TestApplyTakesAll(t *testing.T) {
	var l []api.Entry
	for i, kind := range []int{api.KPut, api.KCell, api.KCol, api.KFam, api.KPut} {
		e := api.Entry{Row: []byte("b"), Fam: i % 2, Ts: 11 + i%3, Seq: 8*16 + 3*i, Kind: kind}
		l = append(l, e)
	}
	l = append(l, with(l[0], func(e *api.Entry) { e.Value, e.Seq = make([]byte, 4096), 8*16+15 }))
	for range l {
		l = append(l[1:], l[0])
		x, m := at(t, 7, 20, 10)
		mustErr(t, "Apply", x.Apply(8, 20, 10, l...), api.OK)
		m = m.apply(8, 20, 10, l)
		mustBe(t, "all kinds", x, m)
		mustSee(t, "all kinds", pin(t, x), m)
	}
	for i := range l {
		for j := range len(l) + 1 {
			x, m := at(t, 7, 20, 10)
			twin := with(l[i], func(e *api.Entry) {
				if e.Kind == api.KPut {
					e.Value = []byte("another")
				}
			})
			mustErr(t, "two of one key", x.Apply(8, 20, 10, slices.Insert(slices.Clone(l), j, twin)...), api.ErrThere)
			mustBe(t, "two of one key", x, m)
			mustSee(t, "two of one key", pin(t, x), m)
		}
	}
}

// 11.2: nothing is written, and a memtable that is full refuses nothing.
func TestApplyBeyondFull(t *testing.T) {
	d := newDisk(t, 0)
	x := open(t, d, "t")
	m := newModel("t", options())
	for i := 1; i <= 300; i++ {
		e := p(fmt.Sprint("row", i%70), 9, i)
		mustErr(t, "Apply", x.Apply(i, 5, 0, e), api.OK)
		m = m.apply(i, 5, 0, []api.Entry{e})
		mustBe(t, "more and more", x, m)
	}
	if !x.Full() || !x.Stalled() || d.Counts() != (api.DiskCounts{}) {
		t.Errorf("%v, %v, %+v", x.Full(), x.Stalled(), d.Counts())
	}
}

// 11.13: Full at just Mem bytes, Stalled at just four times as many, and at just Stall runs.
func TestFullAndStalled(t *testing.T) {
	e := with(p("a", 3, 1), func(e *api.Entry) { e.Value = []byte("four") })
	size := packed([]api.Entry{e})
	if size%4 != 0 {
		t.Fatalf("%d bytes do not try the edge", size)
	}
	for _, k := range []struct {
		mem           int
		full, stalled bool
	}{
		{size + 1, false, false}, {size, true, false}, {size - 1, true, false}, {size/4 + 1, true, false}, {size / 4, true, true}, {1, true, true},
	} {
		o := options()
		o.Mem = k.mem
		x, _ := tree.Open(newDisk(t, 1<<20), "t", one(), o)
		if x.Full() || x.Stalled() {
			t.Error("an empty tree is full")
		}
		mustErr(t, "Apply", x.Apply(1, 5, 0, e), api.OK)
		if x.Full() != k.full || x.Stalled() != k.stalled {
			t.Errorf("%d bytes, Mem %d: %v, %v", size, k.mem, x.Full(), x.Stalled())
		}
		mustErr(t, "Flush", x.Flush(nil), api.OK)
		if x.Full() || x.Stalled() {
			t.Error("it is flushed, and full")
		}
	}
	for stall := 1; stall <= 64; stall += 9 {
		o := options()
		o.Stall = stall
		x, _ := tree.Open(newDisk(t, 1<<20), "t", one(), o)
		for i := 1; i <= 64; i++ {
			if x.Stalled() != (i > stall) {
				t.Errorf("Stall %d: %v with %d runs", stall, x.Stalled(), i-1)
			}
			mustErr(t, "Apply", x.Apply(i, 5, 0, p("a", 3, i)), api.OK)
			mustErr(t, "Flush", x.Flush(nil), api.OK)
		}
	}
}
