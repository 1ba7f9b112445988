package tree_test

import (
	"fmt"
	"slices"
	"testing"

	"strata/api"
	"strata/disk"
	"strata/tree"
)

// change is a call that writes: what it does to a tree with three runs and an entry in its memtable, and to the model; how many acts it has up to the version's being the new one, and behind that.
type change struct {
	what    string
	do      func(x *tree.Tree) api.Errno
	model   func(m model) model
	turning int
	behind  int
}

func changes(t testing.TB) []change {
	x := api.Image{Index: 9, Clock: 30, Low: 10, State: []byte("image"), Runs: [][]byte{
		pieceOf(t, options(), 0, 8, 9, 20, []api.Entry{p("x", 11, 8)}).data,
		pieceOf(t, options(), 0, 5, 2, 20, []api.Entry{p("x", 12, 5)}).data,
	}}
	l := []api.Entry{p("ac", 6, 2)}
	state := []byte("state")
	return []change{
		{"Flush", func(x *tree.Tree) api.Errno { return x.Flush(state) }, func(m model) model { return m.flush(t, state) }, 7, 0},
		{"Replace", func(x *tree.Tree) api.Errno { return x.Replace([]int{1, 2}, l...) }, func(m model) model { return m.replace(t, []int{1, 2}, l) }, 7, 2},
		{"Replace by none", func(x *tree.Tree) api.Errno { return x.Replace([]int{2, 3, 1}) }, func(m model) model { return m.replace(t, []int{1, 2, 3}, nil) }, 4, 3},
		{"Install", func(y *tree.Tree) api.Errno { return y.Install(x) }, func(m model) model { return m.install(t, x) }, 10, 3},
		{"Install of none", func(y *tree.Tree) api.Errno { return y.Install(api.Image{Index: 9, Clock: 30, Low: 10}) }, func(m model) model { return m.install(t, api.Image{Index: 9, Clock: 30, Low: 10}) }, 4, 3},
	}
}

// more is three with an entry in its memtable.
func more(t testing.TB) (*disk.Disk, *tree.Tree, model) {
	t.Helper()
	d, x, m := three(t)
	e := p("m", 9, 4)
	mustErr(t, "Apply", x.Apply(4, 9, 4, e), api.OK)
	return d, x, m.apply(4, 9, 4, []api.Entry{e})
}

// mustBeDown: what a down tree answers: every call that writes, and that reads what is there now, ErrDown ahead of all else; what it tells stays.
func mustBeDown(t testing.TB, what string, x *tree.Tree, m model) {
	t.Helper()
	mustErr(t, what+": Apply", x.Apply(-1, -1, -1, api.Entry{}), api.ErrDown)
	mustErr(t, what+": Apply", x.Apply(m.applied+1, m.clock, m.low), api.ErrDown)
	mustErr(t, what+": Flush", x.Flush(make([]byte, 131073)), api.ErrDown)
	mustErr(t, what+": Replace", x.Replace(nil, api.Entry{}), api.ErrDown)
	mustErr(t, what+": Install", x.Install(api.Image{Index: -1}), api.ErrDown)
	if i, err := x.Image(); err != api.ErrDown || i.Index != 0 || i.Clock != 0 || i.Low != 0 || len(i.State)+len(i.Runs) > 0 {
		t.Fatalf("%s: Image: %+v, %d", what, i, err)
	}
	if v, err := x.Pin(); v != nil || err != api.ErrDown {
		t.Fatalf("%s: Pin: %v, %d", what, v, err)
	}
	if n, err := x.Verify(3); n != 0 || err != api.ErrDown {
		t.Fatalf("%s: Verify: %d, %d", what, n, err)
	}
	mustBe(t, what, x, m)
}

// 11.3, 11.4, 11.7, 11.16: power fails at each act of each call that writes, and tails are cut anywhere.
func TestPowerFails(t *testing.T) {
	for _, c := range changes(t) {
		for n := 1; n <= c.turning+c.behind+1; n++ {
			what := fmt.Sprintf("%s, power fails at act %d", c.what, n)
			longest := 0
			for cut := 0; cut <= longest; cut++ {
				d, x, m := more(t)
				was := m
				d.Arm(n)
				err := c.do(x)
				if n > c.turning {
					m = c.model(m)
				}
				if n > c.turning+c.behind {
					mustErr(t, what, err, api.OK)
					mustBe(t, what, x, m)
				} else {
					mustErr(t, what, err, api.ErrDown)
					mustBeDown(t, what, x, m)
				}
				for _, f := range d.Files() {
					longest = max(longest, len(f.Data)-f.Synced)
				}
				d.Crash(cut)
				if n <= c.turning+c.behind {
					mustBeDown(t, "behind the crash", x, m)
				}
				if n > c.turning+c.behind && m.gen == was.gen {
					t.Fatal("nothing was done")
				}
				y := open(t, d, "t")
				mustBe(t, what, y, m.reopened())
				mustHave(t, what, d, m)
				mustSee(t, what, pin(t, y), m.reopened())
			}
		}
	}
}

// 11.16: the first Flush and the first Install, on a disk that was new.
func TestPowerFailsAtFirst(t *testing.T) {
	fresh := []struct {
		what  string
		do    func(x *tree.Tree) api.Errno
		acts  int
		model func(m model) model
	}{
		{"Flush", func(x *tree.Tree) api.Errno { return x.Flush(nil) }, 7, func(m model) model { return m.flush(t, nil) }},
		{"Install", func(x *tree.Tree) api.Errno { return x.Install(api.Image{Index: 9, Clock: 9, Low: 3}) }, 4, func(m model) model { return m.install(t, api.Image{Index: 9, Clock: 9, Low: 3}) }},
	}
	for _, k := range fresh {
		for n := 1; n <= k.acts+1; n++ {
			for cut := range 200 {
				d := newDisk(t, 1<<20)
				x := open(t, d, "t")
				mustErr(t, "Apply", x.Apply(1, 5, 2, p("a", 3, 1)), api.OK)
				m := newModel("t", options())
				d.Arm(n)
				if err := k.do(x); (err == api.OK) != (n > k.acts) {
					t.Fatalf("%s, at %d: %d", k.what, n, err)
				} else if err == api.OK {
					m = k.model(m.apply(1, 5, 2, []api.Entry{p("a", 3, 1)}))
				}
				d.Crash(cut)
				y := open(t, d, "t")
				mustBe(t, k.what, y, m.reopened())
				mustHave(t, k.what, d, m)
			}
		}
	}
}

// 11.3, 11.4, 11.7: with every room that is too small all is as before, and the tree goes on; a Delete that power fails at changes nothing of the answer.
func TestFullDisks(t *testing.T) {
	for _, c := range changes(t) {
		big, x, m := more(t)
		used := big.Capacity() - big.Free()
		mustErr(t, c.what, c.do(x), api.OK)
		full := 0
		for room := 0; ; room++ {
			start := func() (*disk.Disk, *tree.Tree) {
				d := load(t, used+room, m.files(t)...)
				x := open(t, d, "t")
				mustErr(t, "Apply", x.Apply(4, 9, 4, m.mem...), api.OK)
				return d, x
			}
			d, x := start()
			err := c.do(x)
			if err == api.OK {
				mustBe(t, c.what, x, c.model(m))
				mustHave(t, c.what, d, c.model(m))
				break
			}
			full++
			what := fmt.Sprintf("%s with room for %d", c.what, room)
			mustErr(t, what, err, api.ErrFull)
			mustBe(t, what, x, m)
			mustHave(t, what, d, m)
			acts := d.Counts().Acts
			mustErr(t, "Apply", x.Apply(5, 9, 4), api.OK)
			for n := acts - d.Counts().Deletes + 1; n <= acts; n++ {
				d, x := start()
				d.Arm(n)
				mustErr(t, what+", power fails at a Delete", c.do(x), api.ErrFull)
				mustBeDown(t, what+", power fails at a Delete", x, m)
				d.Crash(room)
				mustBeDown(t, "behind the crash", x, m)
				mustBe(t, what, open(t, d, "t"), m.reopened())
				mustHave(t, what, d, m)
			}
		}
		if full < 100 && c.turning > 4 || full < 20 {
			t.Errorf("%s: only %d rooms were too small", c.what, full)
		}
	}
}

// 11.7: what was written is taken back, the file written last first.
func TestTakenBackLastFirst(t *testing.T) {
	i := api.Image{Index: 9, Clock: 30, Low: 10}
	for k := 5; k > 0; k-- {
		e := with(p("a", 3, k), func(e *api.Entry) { e.Value = make([]byte, 60) })
		i.Runs = append(i.Runs, pieceOf(t, options(), 0, k, 1, 5, []api.Entry{e}).data)
	}
	start := func() (*disk.Disk, func()) {
		d, x, _ := more(t)
		d.Create("filler")
		d.Append("filler", make([]byte, d.Free()-900))
		return d, func() {
			if err := x.Install(i); err != api.ErrFull && err != api.ErrDown {
				t.Fatalf("Install: %d", err)
			}
		}
	}
	d, do := start()
	before := d.Counts()
	do()
	after := d.Counts()
	acts, gone := after.Acts-before.Acts, after.Deletes-before.Deletes
	if gone < 3 {
		t.Fatalf("only %d files were written", gone)
	}
	var want []string
	for k := range gone {
		want = append(want, fmt.Sprint("tRUN-", 3+gone-k))
	}
	if got := deletes(t, start, acts-gone+1, acts); !slices.Equal(got, want) {
		t.Errorf("%q, want %q", got, want)
	}
}

// 11.3, 11.4, 11.7: no more files than a disk takes.
func TestTooManyFiles(t *testing.T) {
	for _, c := range changes(t) {
		needs := (c.turning - 4) / 3
		for spare := range needs + 2 {
			_, _, m := more(t)
			files := m.files(t)
			for i := len(files); i < 256-spare; i++ {
				files = append(files, file(fmt.Sprint("x", i), nil))
			}
			d := load(t, 1<<20, files...)
			x := open(t, d, "t")
			mustErr(t, "Apply", x.Apply(4, 9, 4, m.mem...), api.OK)
			what := fmt.Sprintf("%s with room for %d files", c.what, spare)
			if spare > needs {
				mustErr(t, what, c.do(x), api.OK)
				m = c.model(m)
			} else {
				mustErr(t, what, c.do(x), api.ErrFiles)
			}
			mustBe(t, what, x, m)
			mustHave(t, what, d, m)
		}
	}
}

// 11.3: a manifest that is not the tree's any more refuses the swap, and what was written goes again.
func TestSpoiltManifest(t *testing.T) {
	for _, c := range changes(t) {
		d, x, m := more(t)
		d.Flip("tMANIFEST", 77)
		was := d.Files()
		mustErr(t, c.what, c.do(x), api.ErrManifest)
		mustBe(t, c.what, x, m)
		if !sameFiles(d.Files(), was) {
			t.Errorf("%s: %q", c.what, names(d.Files()))
		}
		d, x, m = more(t)
		other := open(t, d, "t")
		mustErr(t, "another tree's Flush", other.Flush(nil), api.OK)
		was = d.Files()
		mustErr(t, c.what, c.do(x), api.ErrGen)
		mustBe(t, c.what, x, m)
		if !sameFiles(d.Files(), was) {
			t.Errorf("%s: %q", c.what, names(d.Files()))
		}
	}
}

// A down tree: the disk goes down by somebody else's act; views answer as ever, and a Release deletes nothing.
func TestDown(t *testing.T) {
	d, x, m := more(t)
	was := m
	v, w := pin(t, x), pin(t, x)
	mustErr(t, "Replace", x.Replace([]int{1, 2}), api.OK)
	m = m.replace(t, []int{1, 2}, nil)
	d.Arm(1)
	mustErr(t, "Create", d.Create("other"), api.ErrDown)
	mustBeDown(t, "down", x, m)
	mustSee(t, "a view", v, was)
	w.Release()
	if x.Pins() != 1 {
		t.Errorf("Pins %d", x.Pins())
	}
	v.Release()
	mustHave(t, "nothing is deleted", d, m, was)
	if x.Pins() != 0 {
		t.Errorf("Pins %d", x.Pins())
	}
	_, err := v.Walk(nil, nil)
	mustErr(t, "a released view", err, api.ErrReleased)
	d.Crash()
	mustBe(t, "opened", open(t, d, "t"), m.reopened())
	mustHave(t, "opened", d, m)
}

// 11.12: a Release at whose Deletes the disk goes down tells nothing; the tree is down, and as behind it.
func TestDownAtRelease(t *testing.T) {
	for n := 1; n <= 3; n++ {
		d, x, m := more(t)
		was := m
		v, w := pin(t, x), pin(t, x)
		mustErr(t, "Replace", x.Replace([]int{1, 2}), api.OK)
		m = m.replace(t, []int{1, 2}, nil)
		w.Release()
		mustHave(t, "v names them", d, m, was)
		d.Arm(n)
		v.Release()
		if x.Pins() != 0 {
			t.Errorf("Pins %d", x.Pins())
		}
		left := m
		if n < 3 {
			mustBeDown(t, "Release", x, m)
			left.runs = slices.Concat(m.runs, was.runs[n:])
		} else {
			mustErr(t, "Apply", x.Apply(5, 9, 4), api.OK)
		}
		mustHave(t, "what was deleted", d, m, left)
		d.Crash()
		mustBe(t, "opened", open(t, d, "t"), m.reopened())
		mustHave(t, "opened", d, m)
	}
}
