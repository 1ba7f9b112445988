package raft_test

import (
	"slices"
	"testing"

	"strata/api"
)

// settle brings all packets, with all that is said to them, in any order.
func (w *world) settle() {
	w.t.Helper()
	for n := 0; len(w.wire) > 0; n++ {
		if n > 100000 {
			w.fail("the talk never ends")
		}
		w.deliver(w.pull(w.r.Intn(len(w.wire))), false)
	}
}

// round ticks each node once, in any order; between two ticks all packets come.
func (w *world) round() {
	w.t.Helper()
	for _, i := range w.r.Perm(len(w.sites)) {
		w.tick(w.sites[i], false)
		w.settle()
	}
}

// followed is the leader that all follow; nil: there is none.
func (w *world) followed() *site {
	for _, x := range w.sites {
		if x.role == api.RLeader && !slices.ContainsFunc(w.sites, func(y *site) bool { return y.leader != x.id }) {
			return x
		}
	}
	return nil
}

// best is a node whose log is behind none of the others'.
func (w *world) best() *site {
	behind := func(a, b *site) int {
		place := func(x *site) (int, int) {
			if n := len(x.disk.Log); n > 0 {
				return x.disk.Log[n-1].Term, x.disk.SnapIndex + n
			}
			return x.disk.SnapTerm, x.disk.SnapIndex
		}
		at, ai := place(a)
		bt, bi := place(b)
		if at != bt {
			return at - bt
		}
		return ai - bi
	}
	return slices.MaxFunc(w.sites, behind)
}

// calmDown starts all nodes, mends the network, and has one node draw the least timeout, all others the greatest.
func (w *world) calmDown() {
	w.t.Helper()
	clear(w.cut)
	for _, x := range w.sites {
		if x.n == nil {
			w.start(x)
		}
	}
	if w.r.Intn(2) == 0 {
		w.wire = nil
	}
	first := w.best()
	w.draw = func(x *site) int {
		if x == first {
			return 0
		}
		return w.c.Most - w.c.Least
	}
}

// 16.19: behind any storm in which nothing is cut off that somebody needs, calm brings a leader that all follow, in time; and then all commit what is proposed at it, in time.
func TestCalmBringsALeader(t *testing.T) {
	t.Parallel()
	counts := map[string]int{}
	most := 0.0
	for seed := range 900 {
		w := newWorld(t, seed, []int{3, 5, 3, 5, 2, 4, 7, 1, 6}[seed%9], api.RaftState{}, counts)
		for range w.r.Intn(900) {
			w.storm(rules{crash: true, hand: seed%3 == 0, gone: true})
			if w.r.Intn(60) == 0 {
				w.cutWhatNobodyNeeds()
			}
		}
		w.calmDown()
		rounds := 0
		for ; w.followed() == nil; rounds++ {
			if rounds == 5*w.c.Most+5 {
				w.fail("no leader that all follow within %d ticks", rounds)
			}
			w.round()
		}
		most = max(most, float64(rounds)/float64(w.c.Most))
		counts["leader that all follow"]++
		if seed%3 == 0 {
			continue // its leader may still be handing over
		}
		x := w.followed()
		for range 3 * w.c.Most {
			w.propose(x)
			w.settle()
			last := x.disk.SnapIndex + len(x.disk.Log)
			for n := 0; slices.ContainsFunc(w.sites, func(y *site) bool { return y.commit < last }); n++ {
				if n == w.c.Beat+2 {
					w.fail("%d is not committed by all within %d ticks", last, n)
				}
				w.round()
			}
			w.round()
			if w.followed() != x {
				w.fail("%d is not followed any more", x.id)
			}
		}
		w.oneLog()
	}
	t.Logf("at most %.2f times Most", most)
	for _, what := range []string{"leader that all follow", "crash", "compact", "entries gone"} {
		if counts[what] < 20 {
			t.Errorf("%s: %d times", what, counts[what])
		}
	}
}

// cutWhatNobodyNeeds cuts off what all nodes have told as committed.
func (w *world) cutWhatNobodyNeeds() {
	w.t.Helper()
	least := slices.MinFunc(w.sites, func(a, b *site) int { return a.told - b.told }).told
	x := w.sites[w.r.Intn(len(w.sites))]
	if x.n != nil && least > x.disk.SnapIndex && least <= x.commit {
		w.take(x, api.Event{Kind: api.ECompact, Index: least}, false)
	}
}

// peace is a world in which a majority hears its leader, and it them, often enough.
type peace struct {
	*world
	leader *site
	near   []*site // the others of the majority
	far    []*site
}

// findPeace looks for a leader of the highest term and a majority that has it as Leader, and has not been silent for too long.
func (w *world) findPeace() (*peace, bool) {
	for _, x := range w.sites {
		if x.role != api.RLeader || slices.ContainsFunc(w.sites, func(y *site) bool { return y.disk.Hard.Term > x.disk.Hard.Term }) {
			continue
		}
		p := &peace{world: w, leader: x}
		for _, i := range w.r.Perm(len(w.sites)) {
			y := w.sites[i]
			switch is := y.n != nil && y.leader == x.id && p.quiet(x, y) < w.c.Least && p.quiet(y, x) < w.c.Least; {
			case y == x:
			case is && 2*(len(p.near)+1) <= len(w.sites):
				p.near = append(p.near, y)
			default:
				p.far = append(p.far, y)
			}
		}
		if 2*(len(p.near)+1) > len(w.sites) {
			return p, true
		}
	}
	return nil, false
}

// quiet is how many ticks of its own x has not heard y.
func (p *peace) quiet(x, y *site) int {
	if x == p.leader {
		return x.ticks - max(x.heard[y.id], x.led)
	}
	return x.ticks - x.heard[y.id]
}

// exchange lets a node of the majority hear the leader, and the leader it.
func (p *peace) exchange(y *site) {
	p.t.Helper()
	p.propose(p.leader)
	for _, way := range [][2]int{{p.leader.id, y.id}, {y.id, p.leader.id}} {
		i := len(p.wire) - 1
		for i >= 0 && (p.wire[i].from != way[0] || p.wire[i].to != way[1] || p.wire[i].index > 0) {
			i--
		}
		if i < 0 {
			p.fail("nothing is under way from %d to %d", way[0], way[1])
		}
		p.deliver(p.pull(i), false)
	}
	if p.quiet(y, p.leader) != 0 || p.quiet(p.leader, y) != 0 {
		p.fail("%d and %d do not hear each other", y.id, p.leader.id)
	}
}

// tickInTime ticks a node of the majority; ahead of that those that would be silent for too long are heard.
func (p *peace) tickInTime(x *site) {
	p.t.Helper()
	for _, y := range p.near {
		if x == p.leader && p.quiet(x, y)+1 >= p.c.Least || x == y && p.quiet(y, p.leader)+1 >= p.c.Least {
			p.exchange(y)
		}
	}
	p.tick(x, false)
}

func (p *peace) step() {
	p.t.Helper()
	r := p.r
	switch n := r.Intn(100); {
	case n < 25:
		p.tickInTime(append(p.near, p.leader)[r.Intn(len(p.near)+1)])
	case n < 28:
		p.propose(p.leader)
	case n < 30:
		if x := p.sites[r.Intn(len(p.sites))]; x.n != nil {
			p.take(x, api.Event{Kind: api.ECompact, Index: x.commit}, false)
		}
	case n < 75 && len(p.wire) > 0:
		q := p.pull(r.Intn(len(p.wire)))
		switch r.Intn(4) {
		case 0:
			return
		case 1:
			p.wire = append(p.wire, q)
		}
		p.deliver(q, slices.Contains(p.far, p.site(q.to)))
	case len(p.far) > 0:
		x := p.far[r.Intn(len(p.far))]
		switch {
		case x.n == nil:
			p.start(x)
		case r.Intn(20) == 0:
			p.crash(x)
		default:
			p.tick(x, true)
		}
	}
	if len(p.wire) > 60 {
		p.wire = slices.Delete(p.wire, 0, 30)
	}
}

// 16.18: as long as a majority hears its leader, and it them, it stays leader and no term rises above its own, whatever the others do.
func TestNobodyDisturbs(t *testing.T) {
	t.Parallel()
	counts := map[string]int{}
	for seed := range 400 {
		w := newWorld(t, seed, []int{3, 5, 7, 4}[seed%4], somewhere(seed/4%2), counts)
		for range w.r.Intn(600) {
			w.storm(rules{crash: true, compact: true})
		}
		p, is := w.findPeace()
		for n := 0; !is && n < 2000; n++ {
			w.storm(rules{crash: n%3 == 0, compact: true})
			p, is = w.findPeace()
		}
		if !is {
			continue
		}
		counts["peace"]++
		clear(w.cut)
		w.wire = nil
		term := p.leader.disk.Hard.Term
		for range 1500 {
			p.step()
			if p.leader.role != api.RLeader || p.leader.disk.Hard.Term != term {
				w.fail("%d leads no more", p.leader.id)
			}
			for _, x := range w.sites {
				if x.disk.Hard.Term > term {
					w.fail("%d has the term %d, its leader's is %d", x.id, x.disk.Hard.Term, term)
				}
				if x.role == api.RPre {
					counts["pre"]++
				}
			}
		}
		w.oneLog()
	}
	for _, what := range []string{"peace", "pre", "crash", "compact", "installed"} {
		if counts[what] < 300 {
			t.Errorf("%s: %d times", what, counts[what])
		}
	}
}
