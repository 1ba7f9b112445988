package tree_test

import (
	"bytes"
	"fmt"
	"math"
	"slices"
	"testing"

	"strata/api"
	"strata/tree"
)

// 11.6: what was flushed last, whatever came behind.
func TestImage(t *testing.T) {
	x := open(t, newDisk(t, 1<<20), "t")
	mustBeImage(t, "a new tree", image(t, x), newModel("t", options()))
	d, x, m := three(t)
	mustErr(t, "Apply", x.Apply(4, 30, 9, p("z", 10, 4)), api.OK)
	mustBeImage(t, "behind an Apply", image(t, x), m)
	mustBeImage(t, "opened", image(t, open(t, d, "t")), m)
	d.Flip("tRUN-1", 100)
	mustBeImage(t, "the file is spoilt", image(t, x), m)
	mustErr(t, "Replace", x.Replace([]int{2}), api.OK)
	mustBeImage(t, "replaced", image(t, x), m.replace(t, []int{2}, nil))
}

// 11.7, 11.15: a new tree, and one with runs and a memtable, becomes the image.
func TestInstall(t *testing.T) {
	_, a, m := three(t)
	from := image(t, a)
	for _, o := range []api.Options{options(), {Block: 64, Bits: 0, Mem: 1, Stall: 1}} {
		d := newDisk(t, 1<<20)
		x, err := tree.Open(d, "u", one(), o)
		mustErr(t, "Open", err, api.OK)
		mustErr(t, "Install", x.Install(from), api.OK)
		at := newModel("u", o).install(t, from)
		mustBe(t, "installed", x, at)
		mustHave(t, "installed", d, at)
		mustBeImage(t, "installed", image(t, x), m)
		v := pin(t, x)
		mustSee(t, "installed", v, at)
		mustBe(t, "opened", open(t, d, "u"), func() model { m := at; m.options = options(); return m.reopened() }())
		if got := fmt.Sprint(at.nums()); got != "[3 2 1]" {
			t.Errorf("numbers %s", got)
		}

		mustErr(t, "Apply", x.Apply(4, 8, 3, p("z", 10, 4)), api.OK)
		at = at.apply(4, 8, 3, []api.Entry{p("z", 10, 4)})
		from.Index, from.State = 5, []byte("more")
		acts := d.Counts().Acts
		mustErr(t, "Install", x.Install(from), api.OK)
		was := at
		at = at.install(t, from)
		mustBe(t, "installed over it", x, at)
		mustHave(t, "installed over it", d, at, was)
		mustSee(t, "installed over it", pin(t, x), at)
		if n := d.Counts().Acts - acts; n != 3*3+4 {
			t.Errorf("%d acts", n)
		}
		v.Release()
		mustHave(t, "the view is released", d, at)
		from = image(t, a)
	}
}

// 11.7: indices, clocks, lows and states, in this order.
func TestInstallRefuses(t *testing.T) {
	long := make([]byte, 131073)
	wrong := [][]byte{nil}
	for i, k := range []struct {
		x    api.Image
		want api.Errno
	}{
		{api.Image{Index: 8, Clock: 20, Low: 10}, api.OK},
		{api.Image{Index: 1 << 40, Clock: 1 << 40, Low: 1<<40 - 1, State: long[1:]}, api.OK},
		{api.Image{Index: 7, Clock: 19, Low: 9, State: long, Runs: wrong}, api.ErrIndex},
		{api.Image{Index: 6, Clock: 20, Low: 10}, api.ErrIndex},
		{api.Image{Index: -1, Clock: 20, Low: 10}, api.ErrIndex},
		{api.Image{Index: math.MinInt, Clock: 20, Low: 10}, api.ErrIndex},
		{api.Image{Index: math.MaxInt, Clock: 20, Low: 10}, api.ErrIndex},
		{api.Image{Index: 1<<40 + 1, Clock: 20, Low: 10}, api.ErrIndex},
		{api.Image{Index: 8, Clock: 19, Low: 10, State: long, Runs: wrong}, api.ErrClock},
		{api.Image{Index: 8, Clock: 1<<40 + 1, Low: 10}, api.ErrClock},
		{api.Image{Index: 8, Clock: 20, Low: 9}, api.ErrClock},
		{api.Image{Index: 8, Clock: 20, Low: 20}, api.ErrClock},
		{api.Image{Index: 8, Clock: 20, Low: -1}, api.ErrClock},
		{api.Image{Index: 8, Clock: math.MaxInt, Low: math.MaxInt - 1}, api.ErrClock},
		{api.Image{Index: 8, Clock: math.MinInt, Low: math.MinInt}, api.ErrClock},
		{api.Image{Index: 8, Clock: 20, Low: 10, State: long, Runs: wrong}, api.ErrState},
		{api.Image{Index: 8, Clock: 20, Low: 10, Runs: wrong}, api.ErrImage},
	} {
		x, m := at(t, 7, 20, 10)
		mustErr(t, fmt.Sprintf("image %d", i), x.Install(k.x), k.want)
		if k.want == api.OK {
			m = m.install(t, k.x)
		}
		mustBe(t, fmt.Sprintf("image %d", i), x, m)
	}
}

// 11.7: runs that may not be an image's.
func TestInstallOfWrongRuns(t *testing.T) {
	piece := func(index, low, clock int, l ...api.Entry) []byte {
		return pieceOf(t, options(), 0, index, low, clock, l).data
	}
	three := [][]byte{piece(30, 6, 9, p("a", 3, 30)), piece(20, 5, 9, p("a", 3, 20)), piece(10, 5, 8, p("a", 3, 10))}
	turned := slices.Clone(three[0])
	turned[len(turned)/8] ^= 4
	fam := piece(10, 5, 8, p("a", 3, 1), with(p("a", 3, 2), func(e *api.Entry) { e.Fam = 1 }))
	several := func(n int) [][]byte {
		var out [][]byte
		for i := range n {
			out = append(out, piece(100-i, 0, 1, p("a", 3, 100-i)))
		}
		return out
	}
	for i, k := range []struct {
		index, low, clock int
		runs              [][]byte
		want              api.Errno
	}{
		{30, 6, 9, three, api.OK}, {40, 7, 10, three, api.OK}, {30, 6, 9, nil, api.OK},
		{29, 6, 9, three, api.ErrImage}, {30, 5, 9, three, api.ErrImage}, {30, 6, 8, three, api.ErrImage},
		{40, 7, 10, [][]byte{three[0], three[0]}, api.ErrImage},
		{40, 7, 10, [][]byte{three[1], three[0]}, api.ErrImage},
		{40, 7, 10, [][]byte{three[0], three[2], three[1]}, api.ErrImage},
		{40, 7, 10, [][]byte{three[0], piece(29, 7, 9, p("b", 3, 2))}, api.ErrImage},
		{40, 7, 10, [][]byte{three[0], piece(29, 6, 10, p("b", 3, 2))}, api.ErrImage},
		{40, 7, 10, [][]byte{three[0], piece(29, 6, 9, p("b", 3, 2))}, api.OK},
		{40, 7, 10, [][]byte{turned}, api.ErrImage},
		{40, 7, 10, [][]byte{three[0], nil}, api.ErrImage},
		{40, 7, 10, [][]byte{three[0][:len(three[0])-1], three[1]}, api.ErrImage},
		{40, 7, 10, [][]byte{three[0], append(slices.Clone(three[1]), 0)}, api.ErrImage},
		{40, 7, 10, [][]byte{[]byte("none")}, api.ErrImage},
		{40, 7, 10, [][]byte{fam}, api.ErrImage},
		{40, 7, 10, [][]byte{three[0], three[1], fam}, api.ErrImage},
		{100, 7, 10, several(64), api.OK}, {100, 7, 10, several(65), api.ErrImage},
		{100, 7, 10, make([][]byte, 1<<20), api.ErrImage},
	} {
		d := newDisk(t, 1<<20)
		x := open(t, d, "t")
		mustErr(t, "Apply", x.Apply(1, 2, 0, p("m", 3, 1)), api.OK)
		m := newModel("t", options()).apply(1, 2, 0, []api.Entry{p("m", 3, 1)})
		got := api.Image{Index: k.index, Low: k.low, Clock: k.clock, State: []byte("s"), Runs: k.runs}
		mustErr(t, fmt.Sprintf("runs %d", i), x.Install(got), k.want)
		if k.want == api.OK {
			m = m.install(t, got)
		} else if d.Counts().Acts != 0 {
			t.Errorf("runs %d: something was written", i)
		}
		mustBe(t, fmt.Sprintf("runs %d", i), x, m)
		mustHave(t, fmt.Sprintf("runs %d", i), d, m)
		mustSee(t, fmt.Sprintf("runs %d", i), pin(t, x), m)
	}
	for bit := range 8 * len(three[0]) {
		spoilt := slices.Clone(three[0])
		spoilt[bit/8] ^= 1 << (bit % 8)
		x := open(t, newDisk(t, 1<<20), "t")
		mustErr(t, "a bit is turned", x.Install(api.Image{Index: 40, Low: 7, Clock: 10, Runs: [][]byte{spoilt}}), api.ErrImage)
	}
}

// 11.15: from tree to tree, and on.
func TestImagesGoOn(t *testing.T) {
	d := newDisk(t, 1<<22)
	x := open(t, d, "a")
	m := newModel("a", options())
	for i, prefix := range []string{"b", "c", "d", "e"} {
		index := m.applied + 1
		e := p(prefix, 5, index)
		mustErr(t, "Apply", x.Apply(index, 5+i, i, e), api.OK)
		mustErr(t, "Flush", x.Flush([]byte(prefix)), api.OK)
		m = m.apply(index, 5+i, i, []api.Entry{e}).flush(t, []byte(prefix))
		y := open(t, d, prefix)
		from := image(t, x)
		mustErr(t, "Install", y.Install(from), api.OK)
		was := m
		m = newModel(prefix, options()).install(t, from)
		mustHave(t, "the first one", d, was)
		mustHave(t, "the next one", d, m)
		if !bytes.Equal(y.State(), []byte(prefix)) || len(y.Runs()) != i+1 {
			t.Fatalf("%q, %d runs", y.State(), len(y.Runs()))
		}
		mustSee(t, "the next one", pin(t, y), m)
		x = y
	}
}
