package raft_test

import (
	"fmt"
	"math/rand"
	"slices"
	"testing"

	"strata/api"
	"strata/raft"
)

// packet is a message that is under way, or the bytes of a snapshot.
type packet struct {
	m           api.Msg
	from, to    int
	index, term int // of a snapshot; 0: it is a message
}

// site is a node with its disk.
type site struct {
	id     int
	n      *raft.Node // nil: it is down
	disk   api.RaftState
	told   int // the greatest Commit that it has told, ever
	commit int // the last one, since it runs
	role   int
	leader int
	ticks  int
	heard  map[int]int // by peer: its own ticks when it heard it last: a leader its followers, a follower its leader
	led    int         // its own ticks when it came to lead last
}

// world is nodes, each driven as 16.3 says, over a network that loses, doubles, keeps back and reorders.
type world struct {
	t       *testing.T
	seed    int
	r       *rand.Rand
	c       api.RaftConfig
	sites   []*site
	wire    []packet
	cut     map[[2]int]bool
	draw    func(*site) int
	asked   int                   // proposals
	leaders map[int]int           // by term
	reigns  map[int]api.RaftState // by term: what its leader had when it came to lead
	votes   map[[2]int]int        // by node and term
	agreed  map[int]api.LogEntry  // by index: what was told as committed
	toldIn  map[int]int           // by index: the least term in which that was told
	counts  map[string]int
}

func newWorld(t *testing.T, seed, peers int, s api.RaftState, counts map[string]int) *world {
	r := rand.New(rand.NewSource(int64(seed)))
	w := &world{t: t, seed: seed, r: r, counts: counts, cut: map[[2]int]bool{}, leaders: map[int]int{}, reigns: map[int]api.RaftState{}, votes: map[[2]int]int{}, agreed: map[int]api.LogEntry{}, toldIn: map[int]int{}}
	w.c = among(peers)
	w.c.Least = 3 + r.Intn(5)
	w.c.Most, w.c.Beat, w.c.Batch = w.c.Least+3+r.Intn(6), 1+r.Intn(2), 1+r.Intn(4)
	w.draw = func(*site) int { return r.Intn(100) }
	for _, p := range w.c.Peers {
		x := &site{id: p, disk: deep(s), told: s.Commit}
		w.sites = append(w.sites, x)
		w.start(x)
	}
	return w
}

func (w *world) fail(text string, args ...any) {
	w.t.Helper()
	w.t.Fatalf("seed %d: %s", w.seed, fmt.Sprintf(text, args...))
}

// start goes on with what was written last, and a Commit from SnapIndex up to what was told.
func (w *world) start(x *site) {
	w.t.Helper()
	c, s := w.c, deep(x.disk)
	c.ID = x.id
	s.Commit = s.SnapIndex + w.r.Intn(x.told-s.SnapIndex+1)
	n, err := raft.New(c, s, w.draw(x))
	if err != api.OK {
		w.fail("New of %d, %s: %d", x.id, stateText(s), err)
	}
	x.n, x.commit, x.role, x.leader, x.heard = n, s.Commit, api.RFollower, 0, map[int]int{}
}

func (w *world) crash(x *site) {
	x.n, x.role, x.leader = nil, 0, 0
	w.counts["crash"]++
}

// take has a node take an event, and drives on what it tells: it may crash ahead of writing, and behind it.
func (w *world) take(x *site, e api.Event, mayCrash bool) {
	w.t.Helper()
	e.Draw = w.draw(x)
	r, err := x.n.Step(e)
	if err != api.OK {
		if e.Kind == api.EMsg {
			w.fail("%d refuses %+v: %d", x.id, e.Msg, err)
		}
		return
	}
	if mayCrash && w.r.Intn(40) == 0 {
		w.crash(x)
		return
	}
	w.write(x, e, r)
	if mayCrash && w.r.Intn(40) == 0 {
		w.crash(x)
		return
	}
	for _, m := range r.Msgs {
		w.wire = append(w.wire, packet{m: m, from: m.From, to: m.To})
		w.counts[fmt.Sprintf("said %d, %v", m.Kind, m.Reject)]++
	}
	for _, p := range r.Snaps {
		w.wire = append(w.wire, packet{from: x.id, to: p, index: x.disk.SnapIndex, term: x.disk.SnapTerm})
	}
	w.look(x, e, r)
}

// write keeps what a Ready asks for; then the disk has all that the node would go on from.
func (w *world) write(x *site, e api.Event, r api.Ready) {
	w.t.Helper()
	d := &x.disk
	if e.Kind == api.EInstalled {
		d.SnapIndex, d.SnapTerm, d.Log = e.Index, e.Term, nil
		x.told = max(x.told, e.Index)
		w.counts["installed"]++
	}
	if r.Write {
		if r.Hard.Term < d.Hard.Term || r.Hard.Term == d.Hard.Term && d.Hard.Vote != 0 && r.Hard.Vote != d.Hard.Vote {
			w.fail("%d goes from %+v to %+v", x.id, d.Hard, r.Hard)
		}
		d.Hard = r.Hard
		if r.From <= d.SnapIndex || r.From > d.SnapIndex+len(d.Log)+1 {
			w.fail("%d writes from %d on behind %s", x.id, r.From, stateText(*d))
		}
		if gone := d.SnapIndex + len(d.Log) + 1 - r.From; gone > 0 {
			w.counts["entries gone"]++
		}
		d.Log = append(slices.Clone(d.Log[:r.From-d.SnapIndex-1]), deepEntries(r.Entries)...)
	}
	if e.Kind == api.ECompact {
		k := e.Index - d.SnapIndex
		d.SnapIndex, d.SnapTerm, d.Log = e.Index, d.Log[k-1].Term, d.Log[k:]
		w.counts["compact"]++
	}
	s := x.n.State()
	if s.Hard != d.Hard || s.SnapIndex != d.SnapIndex || s.SnapTerm != d.SnapTerm || !same(s.Log, d.Log) {
		w.fail("%d has %s, and written %s", x.id, stateText(s), stateText(*d))
	}
}

// look holds what a node tells against 16.15 to 16.17.
func (w *world) look(x *site, e api.Event, r api.Ready) {
	w.t.Helper()
	if r.Commit < x.commit {
		w.fail("the Commit of %d falls from %d to %d", x.id, x.commit, r.Commit)
	}
	key := [2]int{x.id, r.Hard.Term}
	if v := w.votes[key]; v != 0 && v != r.Hard.Vote {
		w.fail("%d votes for %d and %d in term %d", x.id, v, r.Hard.Vote, r.Hard.Term)
	}
	w.votes[key] = r.Hard.Vote
	if r.Role == api.RLeader {
		w.lookAtLeader(x, r)
	}
	for i := max(x.disk.SnapIndex, x.commit) + 1; i <= r.Commit; i++ {
		w.agree(x, x.disk.Log[i-x.disk.SnapIndex-1], r.Hard.Term)
	}
	if e.Kind == api.EInstalled {
		if had, is := w.agreed[e.Index]; is && had.Term != e.Term {
			w.fail("%d has a snapshot of %d with the term %d, it was %d", x.id, e.Index, e.Term, had.Term)
		}
	}
	x.commit, x.role, x.leader, x.told = r.Commit, r.Role, r.Leader, max(x.told, r.Commit)
	if r.First > 0 {
		w.counts["proposed"]++
	}
}

func (w *world) lookAtLeader(x *site, r api.Ready) {
	w.t.Helper()
	term := r.Hard.Term
	if other, is := w.leaders[term]; is && other != x.id {
		w.fail("%d and %d lead term %d", other, x.id, term)
	}
	if _, is := w.leaders[term]; is {
		return
	}
	w.leaders[term], w.reigns[term], x.led = x.id, deep(x.disk), x.ticks
	w.counts["leaders"]++
	for i, e := range w.agreed {
		if w.toldIn[i] < term {
			w.mustHave(x.disk, e, term)
		}
	}
}

// mustHave: what was told as committed stands in the log of a later term's leader.
func (w *world) mustHave(s api.RaftState, e api.LogEntry, term int) {
	w.t.Helper()
	if at := e.Index - s.SnapIndex - 1; at >= 0 && (at >= len(s.Log) || !same(s.Log[at], e)) {
		w.fail("the leader of term %d has not %+v: %s", term, e, stateText(s))
	}
}

// agree: what is told as committed at an index is the same by all, always.
func (w *world) agree(x *site, e api.LogEntry, term int) {
	w.t.Helper()
	had, is := w.agreed[e.Index]
	if is && !same(had, e) {
		w.fail("%d tells %+v, it was %+v", x.id, e, had)
	}
	if is && w.toldIn[e.Index] <= term {
		return
	}
	w.agreed[e.Index], w.toldIn[e.Index] = deepEntries([]api.LogEntry{e})[0], term
	for later, s := range w.reigns {
		if later > term {
			w.mustHave(s, e, later)
		}
	}
}

// oneLog: if two nodes have entries of one index and term, they have the same entries up to there.
func (w *world) oneLog() {
	w.t.Helper()
	for i, a := range w.sites {
		for _, b := range w.sites[i+1:] {
			first := max(a.disk.SnapIndex, b.disk.SnapIndex) + 1
			meet := false
			for at := min(a.disk.SnapIndex+len(a.disk.Log), b.disk.SnapIndex+len(b.disk.Log)); at >= first; at-- {
				p, q := a.disk.Log[at-a.disk.SnapIndex-1], b.disk.Log[at-b.disk.SnapIndex-1]
				meet = meet || p.Term == q.Term
				if meet && !same(p, q) {
					w.fail("%d has %s, %d has %s", a.id, stateText(a.disk), b.id, stateText(b.disk))
				}
			}
		}
	}
}

func (w *world) site(id int) *site { return w.sites[id-1] }

func (w *world) tick(x *site, mayCrash bool) {
	w.t.Helper()
	x.ticks++
	w.take(x, api.Event{Kind: api.ETick}, mayCrash)
}

func (w *world) propose(x *site) {
	w.t.Helper()
	w.asked++
	w.take(x, api.Event{Kind: api.EPropose, Data: [][]byte{fmt.Appendf(nil, "%d", w.asked)}}, false)
}

// deliver brings a packet, if there is somebody who takes it.
func (w *world) deliver(p packet, mayCrash bool) {
	w.t.Helper()
	x := w.site(p.to)
	if x.n == nil || w.cut[[2]int{p.from, p.to}] {
		return
	}
	if p.index > 0 {
		// As a replica does it: no leader, and nobody who has it already, installs a snapshot.
		if x.role != api.RLeader && p.index > x.commit && p.term <= x.disk.Hard.Term {
			w.take(x, api.Event{Kind: api.EInstalled, Index: p.index, Term: p.term}, mayCrash)
		}
		return
	}
	now := p.m.Term >= x.disk.Hard.Term
	w.take(x, api.Event{Kind: api.EMsg, Msg: p.m}, mayCrash)
	if now && slices.Contains([]int{api.MAppend, api.MSnapshot, api.MAppendReply}, p.m.Kind) {
		x.heard[p.from] = x.ticks
	}
}

// pull takes a packet from the wire.
func (w *world) pull(i int) packet {
	p := w.wire[i]
	w.wire[i] = w.wire[len(w.wire)-1]
	w.wire = w.wire[:len(w.wire)-1]
	return p
}

// rules say what a storm may do beside ticks and messages.
type rules struct{ crash, hand, compact, gone bool }

// storm is one thing of all that may happen.
func (w *world) storm(may rules) {
	w.t.Helper()
	r := w.r
	x := w.sites[r.Intn(len(w.sites))]
	switch n := r.Intn(100); {
	case n < 60 && len(w.wire) > 0:
		p := w.pull(r.Intn(len(w.wire)))
		switch m := r.Intn(12); {
		case m == 0:
			w.counts["lost"]++
			return
		case m == 1:
			w.wire = append(w.wire, p)
			w.counts["doubled"]++
		}
		w.deliver(p, may.crash)
	case n < 62:
		clear(w.cut)
		for range r.Intn(2 * len(w.sites)) {
			w.cut[[2]int{1 + r.Intn(len(w.sites)), 1 + r.Intn(len(w.sites))}] = true
		}
	case n < 63 && may.crash && x.n != nil && r.Intn(3) == 0:
		w.crash(x)
	case x.n == nil:
		if r.Intn(4) == 0 {
			w.start(x)
		}
	case n < 70:
		w.propose(x)
	case n < 72 && may.compact:
		w.take(x, api.Event{Kind: api.ECompact, Index: w.mayCut(x)}, may.crash)
	case n < 73 && may.hand:
		w.take(x, api.Event{Kind: api.EHandOver, Peer: 1 + r.Intn(len(w.sites))}, may.crash)
	case n < 74 && may.gone:
		w.take(x, api.Event{Kind: api.EUnreachable, Peer: 1 + r.Intn(len(w.sites))}, may.crash)
	default:
		w.tick(x, may.crash)
	}
	if len(w.wire) > 60 {
		w.wire = slices.Delete(w.wire, 0, 30)
	}
}

// mayCut is up to where a node may cut off its log.
func (w *world) mayCut(x *site) int {
	return x.disk.SnapIndex + w.r.Intn(x.commit-x.disk.SnapIndex+1)
}

// somewhere is a state from which all nodes of a world begin.
func somewhere(seed int) api.RaftState {
	switch seed % 4 {
	case 1:
		return parseState("3.0 s4.2 c5 [5.2=a 6.3=b]")
	case 2:
		return api.RaftState{Hard: api.Hard{Term: api.MaxTerm - 40}, SnapIndex: api.MaxIndex - 150, SnapTerm: 3, Commit: api.MaxIndex - 150}
	}
	return api.RaftState{}
}

// 16.15, 16.16, 16.17: one leader a term, one log, and nobody forgets, whatever is lost, doubled, kept back and reordered, and whoever crashes.
func TestStorms(t *testing.T) {
	t.Parallel()
	counts := map[string]int{}
	for seed := range 600 {
		w := newWorld(t, seed, []int{3, 3, 5, 5, 2, 4, 7, 1}[seed%8], somewhere(seed/8), counts)
		for i := range 3000 {
			w.storm(rules{crash: true, hand: true, compact: true, gone: true})
			if i%25 == 0 {
				w.oneLog()
			}
		}
		w.oneLog()
		counts["agreed"] += len(w.agreed)
	}
	for _, what := range []string{"crash", "lost", "doubled", "leaders", "proposed", "compact", "installed", "entries gone", "agreed", "said 8, false", "said 7, false", "said 6, true", "said 4, true", "said 2, true"} {
		if counts[what] < 100 {
			t.Errorf("%s: %d times", what, counts[what])
		}
	}
}

// between brings what is under way among some nodes, with all that they say to it; the rest is lost.
func (w *world) between(ids ...int) {
	w.t.Helper()
	for len(w.wire) > 0 {
		p := w.wire[0]
		w.wire = w.wire[1:]
		if slices.Contains(ids, p.from) && slices.Contains(ids, p.to) {
			w.deliver(p, false)
		}
	}
}

// elect has a node come to lead by the votes of some others; what it says then is lost.
func (w *world) elect(id int, voters ...int) {
	w.t.Helper()
	for _, v := range voters {
		for range w.c.Least {
			w.tick(w.site(v), false)
		}
	}
	x := w.site(id)
	for n := 0; x.role != api.RLeader; n++ {
		if n > 5*w.c.Most {
			w.fail("%d does not come to lead", id)
		}
		w.tick(x, false)
		for x.role != api.RLeader && len(w.wire) > 0 {
			p := w.wire[0]
			w.wire = w.wire[1:]
			if slices.Contains(voters, p.from) || slices.Contains(voters, p.to) {
				w.deliver(p, false)
			}
		}
	}
	w.wire = nil
}

// 16.16: an entry of an earlier term that a majority has may still be taken away by a later leader; so it is not told as committed.
func TestAnEntryOfAnEarlierTerm(t *testing.T) {
	w := newWorld(t, 8, 5, api.RaftState{}, map[string]int{})
	w.c.Batch = 1
	w.draw = func(*site) int { return w.c.Most - w.c.Least }
	for _, x := range w.sites {
		w.start(x)
	}
	beat := func(id int, others ...int) {
		for range w.c.Beat {
			w.tick(w.site(id), false)
		}
		w.between(append(others, id)...)
	}
	w.elect(1, 2, 3)
	beat(1, 2, 3, 4, 5)
	w.propose(w.site(1))
	w.between(1, 2)
	w.crash(w.site(1))
	w.elect(5, 3, 4) // 5 has another entry 2
	w.crash(w.site(5))
	w.start(w.site(1))
	w.elect(1, 2, 3)
	beat(1, 2)
	w.tick(w.site(1), false)
	w.wire = nil
	// 3 takes the old entry 2, and not yet the one of the new term.
	for n := 0; w.site(3).disk.Log[len(w.site(3).disk.Log)-1].Index < 2; n++ {
		if n > 50 {
			w.fail("3 has not the entry 2")
		}
		w.tick(w.site(1), false)
		for len(w.wire) > 0 {
			p := w.wire[0]
			w.wire = w.wire[1:]
			if to3 := p.from == 1 && p.to == 3; to3 && len(w.site(3).disk.Log) < 2 || p.from == 3 {
				w.deliver(p, false)
			}
		}
	}
	for i, want := range []string{"[1.1 2.1=1 3.3]", "[1.1 2.1=1 3.3]", "[1.1 2.1=1]", "[1.1]", "[1.1 2.2]"} {
		if got := entriesText(w.sites[i].disk.Log); got != want {
			t.Fatalf("%d has %s, want %s", i+1, got, want)
		}
	}
	if p := w.site(1).n.Progress(); p[0] != [3]int{2, 3, 4} || p[1][1] != 2 || w.site(1).commit > 1 {
		t.Fatalf("%v, Commit %d", p, w.site(1).commit)
	}
	w.crash(w.site(1))
	w.start(w.site(5))
	w.elect(5, 3, 4)
	beat(5, 3, 4)
	beat(5, 3, 4)
	if w.site(5).commit != 3 || w.site(3).commit != 3 {
		t.Errorf("Commit %d and %d", w.site(5).commit, w.site(3).commit)
	}
	// The first one comes back, and has what was agreed on.
	w.start(w.site(1))
	beat(5, 1, 2, 3, 4)
	beat(5, 1, 2, 3, 4)
	if got := entriesText(w.site(1).disk.Log); got != "[1.1 2.2 3.4]" || w.site(1).commit != 3 {
		t.Errorf("%s, Commit %d", got, w.site(1).commit)
	}
}
