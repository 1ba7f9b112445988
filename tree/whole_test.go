package tree_test

import (
	"fmt"
	"math/rand"
	"slices"
	"testing"

	"strata/api"
	"strata/disk"
	"strata/tree"
)

// play is a tree that is drawn through, beside its model and its views with theirs.
type play struct {
	t      *testing.T
	r      *rand.Rand
	d      *disk.Disk
	x      *tree.Tree
	m      model
	fams   int
	views  []*tree.View
	seen   []model // of each view what was there
	counts map[string]int
}

func newPlay(t *testing.T, r *rand.Rand, d *disk.Disk, prefix string, counts map[string]int) *play {
	fams := 1 + r.Intn(3)
	o := api.Options{Block: 64 + r.Intn(300), Bits: r.Intn(12), Mem: 1 + r.Intn(600), Stall: 1 + r.Intn(6)}
	g := &play{t: t, r: r, d: d, m: newModel(prefix, o), fams: fams, counts: counts}
	g.open()
	return g
}

func (g *play) open() {
	g.t.Helper()
	x, err := tree.Open(g.d, g.m.prefix, families(g.fams), g.m.options)
	mustErr(g.t, "Open", err, api.OK)
	g.x, g.m, g.views, g.seen = x, g.m.reopened(), nil, nil
}

func (g *play) apply() {
	index := g.m.applied + 1
	clock := g.m.clock + g.r.Intn(3)
	low := min(clock-1, g.m.low+g.r.Intn(2))
	l := drawCommand(g.r, g.fams, low, index)
	err := g.x.Apply(index, clock, low, l...)
	if err == api.ErrThere {
		g.counts["two of one key"]++
		return
	}
	mustErr(g.t, "Apply", err, api.OK)
	g.m = g.m.apply(index, clock, low, l)
}

// drawn is a call that writes, with the model behind it, and how many acts the version's turn has.
type drawn struct {
	what    string
	do      func() api.Errno
	behind  model
	turning int
}

func (g *play) draw() drawn {
	switch g.r.Intn(4) {
	case 0:
		x := drawImage(g.t, g.r, g.m.options, g.fams, g.m)
		return drawn{"Install", func() api.Errno { return g.x.Install(x) }, g.m.install(g.t, x), 4 + 3*len(x.Runs)}
	case 1, 2:
		state := letters(g.r, g.r.Intn(4))
		return drawn{"Flush", func() api.Errno { return g.x.Flush(state) }, g.m.flush(g.t, state), 4 + 3*min(1, len(g.m.mem))}
	}
	olds := g.drawOlds()
	var l []api.Entry
	for _, r := range g.m.runs {
		if slices.Contains(olds, r.meta.Num) {
			l = append(l, r.l...)
		}
	}
	l = drawSome(g.r, inOrder(l))
	return drawn{"Replace", func() api.Errno { return g.x.Replace(olds, l...) }, g.m.replace(g.t, olds, l), 4 + 3*min(1, len(l))}
}

// drawOlds is some of the runs; there must be one.
func (g *play) drawOlds() []int {
	for len(g.m.runs) == 0 {
		g.apply()
		if err := g.x.Flush(nil); err == api.OK {
			g.m = g.m.flush(g.t, nil)
		} else {
			return []int{1}
		}
	}
	nums := g.m.nums()
	g.r.Shuffle(len(nums), func(i, j int) { nums[i], nums[j] = nums[j], nums[i] })
	return nums[:1+g.r.Intn(len(nums))]
}

// change does a drawn call; what does not fit leaves all as it was.
func (g *play) change() {
	c := g.draw()
	switch err := c.do(); err {
	case api.OK:
		g.m = c.behind
	case api.ErrFull, api.ErrFiles:
	case api.ErrNoRun:
		if len(g.m.runs) > 0 {
			g.t.Fatalf("%s: %d", c.what, err)
		}
	default:
		g.t.Fatalf("%s: %d", c.what, err)
	}
	g.counts[c.what]++
}

// fail lets power fail within a drawn call, or behind it.
func (g *play) fail() {
	g.counts["power fails"]++
	c := g.draw()
	n := 1 + g.r.Intn(c.turning+6)
	g.d.Arm(n)
	err := c.do()
	what := fmt.Sprintf("%s, power failed at %d of %d: %d", c.what, n, c.turning, err)
	switch {
	case err == api.OK:
		g.m = c.behind
	case err == api.ErrDown && n > c.turning:
		g.m = c.behind
		g.counts["down at a Delete"]++
	case err == api.ErrDown:
		g.counts["down"]++
	default:
		g.counts["refused"]++
	}
	mustBe(g.t, what, g.x, g.m)
	for i, v := range g.views {
		mustSee(g.t, what, v, g.seen[i])
	}
	g.d.Crash(g.r.Intn(400)-100, g.r.Intn(400)-100)
	g.open()
	mustBe(g.t, what, g.x, g.m)
	mustHave(g.t, what, g.d, g.m)
}

func (g *play) pin() {
	v, err := g.x.Pin()
	mustErr(g.t, "Pin", err, api.OK)
	g.views, g.seen = append(g.views, v), append(g.seen, g.m)
}

func (g *play) release() {
	if len(g.views) == 0 {
		return
	}
	i := g.r.Intn(len(g.views))
	g.views[i].Release()
	g.views, g.seen = slices.Delete(g.views, i, i+1), slices.Delete(g.seen, i, i+1)
}

// look reads a range of a view that is held.
func (g *play) look() {
	if len(g.views) == 0 {
		return
	}
	i := g.r.Intn(len(g.views))
	from, to := string(letters(g.r, g.r.Intn(3))), string(letters(g.r, g.r.Intn(3)))
	want := between(g.seen[i].entries(), from, to)
	mustTell(g.t, "a range", walk(g.t, g.views[i], from, to), want)
	back := g.r.Intn(2) == 0
	if got := rows(g.t, g.views[i], from, to, back); !slices.Equal(got, rowsOf(want, back)) {
		g.t.Fatalf("rows %q, want %q", got, rowsOf(want, back))
	}
}

func (g *play) step() {
	g.t.Helper()
	switch n := g.r.Intn(40); {
	case n < 14:
		g.apply()
	case n < 24:
		g.change()
	case n < 27:
		g.pin()
	case n < 31:
		g.release()
	case n < 35:
		g.look()
	case n < 36:
		g.open()
	case n < 38:
		g.fail()
	default:
		if n, err := g.x.Verify(1 + g.r.Intn(16)); n != 0 || err != api.OK {
			g.t.Fatalf("Verify: %d, %d", n, err)
		}
		mustBeImage(g.t, "Image", image(g.t, g.x), g.m)
	}
	mustBe(g.t, "told", g.x, g.m)
	mustHave(g.t, "on the disk", g.d, g.m, g.seen...)
	if g.x.Pins() != len(g.views) {
		g.t.Fatalf("Pins %d, want %d", g.x.Pins(), len(g.views))
	}
}

// 11.8, 11.12, 11.15 to 11.17: a tree that goes through anything is what the plain lists are, at every moment.
func TestAgainstTheModel(t *testing.T) {
	counts := map[string]int{}
	for seed := range 300 {
		r := rand.New(rand.NewSource(int64(11150 + seed)))
		capacity := 1 << 20
		if r.Intn(2) == 0 {
			capacity = 1500 + r.Intn(4000)
		}
		g := newPlay(t, r, newDisk(t, capacity), "t.", counts)
		for range 120 {
			g.step()
		}
		for i, v := range g.views {
			mustSee(t, "at the end", v, g.seen[i])
		}
		g.pin()
		mustSee(t, "at the end", g.views[len(g.views)-1], g.m)
	}
	for _, what := range []string{"Flush", "Replace", "Install", "down", "down at a Delete", "refused"} {
		if counts[what] < 50 {
			t.Errorf("%s was drawn only %d times", what, counts[what])
		}
	}
}

// 11.18: two trees of one disk have nothing in common but its room, and its power.
func TestTwoTreesOfOneDisk(t *testing.T) {
	for seed := range 20 {
		r := rand.New(rand.NewSource(int64(11180 + seed)))
		d := newDisk(t, 1<<22)
		counts := map[string]int{}
		games := []*play{newPlay(t, r, d, "a", counts), newPlay(t, r, d, "b", counts), newPlay(t, r, d, "0/a", counts)}
		for range 200 {
			g := games[r.Intn(len(games))]
			fails := counts["power fails"]
			g.step()
			// It fails for all of them.
			if fails != counts["power fails"] {
				for _, other := range games {
					if other != g {
						other.open()
					}
				}
			}
			for _, g := range games {
				mustBe(t, g.m.prefix, g.x, g.m)
				mustHave(t, g.m.prefix, g.d, g.m, g.seen...)
			}
		}
	}
}
