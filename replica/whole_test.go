package replica_test

import (
	"bytes"
	"fmt"
	"math/rand"
	"slices"
	"testing"

	"strata/api"
	"strata/disk"
	"strata/machine"
	"strata/replica"
	"strata/tree"
)

// moment is what a machine is behind an index that all before it and it were given one by one.
type moment struct {
	entry  api.LogEntry
	reply  []byte
	digest uint32
	state  []byte
	stat   string
}

// history is the one log of a tablet, as far as anybody has applied it, and the machine that was given it.
type history struct {
	t       *testing.T
	machine *machine.Machine
	moments []moment
}

func newHistory(t *testing.T) *history {
	t.Helper()
	tr, err := tree.Open(newDisk(t, api.MaxDisk), "ref", schema, api.Options{Block: 4096, Bits: 0, Mem: api.MaxMem, Stall: 64})
	mustErr(t, "tree.Open", err, api.OK)
	m, err := machine.Open(tr)
	mustErr(t, "machine.Open", err, api.OK)
	h := &history{t: t, machine: m}
	h.note(api.LogEntry{}, nil)
	return h
}

func (h *history) last() int { return len(h.moments) - 1 }

// add is the next entry of the log.
func (h *history) add(e api.LogEntry) {
	h.t.Helper()
	reply, err := h.machine.Apply(e.Index, e.Data)
	mustErr(h.t, "Apply", err, api.OK)
	h.note(e, reply)
}

func (h *history) note(e api.LogEntry, reply []byte) {
	h.t.Helper()
	sum, err := h.machine.Digest()
	mustErr(h.t, "Digest", err, api.OK)
	h.moments = append(h.moments, moment{e, reply, sum, h.machine.State(), fmt.Sprintf("%+v", h.machine.Stat())})
}

// site is a replica with its disk, and what it has said.
type site struct {
	id       int
	d        *disk.Disk
	r        *replica.Replica // nil: it is off
	status   api.Status       // as it was last
	log      []api.LogEntry   // as it was last
	said     int              // the highest term that a message of it told
	votes    map[int]int      // by term
	leaned   map[int]word     // by index: entries that a message of it leaned on
	proposed map[int]int      // by index: the term of what it took last and has not answered
}

// word is that there is an entry of a term, said in a term.
type word struct{ term, in int }

// world is right nodes over a network that loses, doubles, keeps back and reorders.
type world struct {
	t      *testing.T
	seed   int
	chance *rand.Rand
	c      api.ReplicaConfig
	room   int
	h      *history
	sites  []*site
	wire   []api.Message
	away   int
	s      *story // draws commands
	count  map[string]int
}

func newWorld(t *testing.T, seed, peers, room int, count map[string]int) *world {
	t.Helper()
	r := rand.New(rand.NewSource(int64(seed)))
	w := &world{t: t, seed: seed, chance: r, room: room, h: newHistory(t), count: count, c: config(1, peers)}
	w.c.Raft.Least = 4 + r.Intn(3)
	w.c.Raft.Most = w.c.Raft.Least + 4 + r.Intn(5)
	w.c.Raft.Batch = 1 + r.Intn(16)
	large := []int{20, 200, 3000}[r.Intn(3)]
	w.c.Tree = api.Options{Block: 64 + r.Intn(600), Bits: r.Intn(12), Mem: 50 + r.Intn(6*large), Stall: 6 + r.Intn(8)}
	w.c.Policy = api.Policy{Width: 2, Ratio: 2 + r.Intn(4), Most: 4 + r.Intn(4)}
	w.c.Segment = 256 + r.Intn(2000)
	w.s = &story{t: t, seed: seed, chance: r, large: large}
	if w.room == 0 {
		w.room = 1000 + r.Intn(1500+20*large)
	}
	for i := range peers {
		x := &site{id: i + 1, d: newDisk(t, w.room), votes: map[int]int{}, leaned: map[int]word{}}
		w.sites = append(w.sites, x)
		w.open(x)
	}
	return w
}

func (w *world) fail(x *site, text string, args ...any) {
	w.t.Helper()
	w.t.Fatalf("seed %d, peer %d: %s\nits disk: %s", w.seed, x.id, fmt.Sprintf(text, args...), told(x.d))
}

func (w *world) conf(x *site) api.ReplicaConfig {
	c := w.c
	c.Raft.ID = x.id
	return c
}

// open: 18.14, 18.15: behind any crash it opens, and has what it said.
func (w *world) open(x *site) {
	w.t.Helper()
	r, err := replica.Open(x.d, "a", schema, w.conf(x), w.chance.Intn(20))
	if err != api.OK {
		w.fail(x, "Open: %d", err)
	}
	w.holdsItsWord(x, r, x.d)
	x.r, x.status, x.log, x.proposed = r, r.Status(), r.Log(), map[int]int{}
	w.count["opened"]++
}

// holdsItsWord looks at a replica that was opened over what x had on its disk.
func (w *world) holdsItsWord(x *site, r *replica.Replica, d *disk.Disk) {
	w.t.Helper()
	s, j := r.Status(), journalOf(w.t, d)
	if s.Term < x.said {
		w.fail(x, "it said the term %d, and opens with %d", x.said, s.Term)
	}
	if vote := x.votes[s.Term]; vote != 0 && j.hard.Vote != vote {
		w.fail(x, "it voted for %d in the term %d, and opens with %+v", vote, s.Term, j.hard)
	}
	if s.Applied != s.Flushed || s.Flushed < x.status.Flushed {
		w.fail(x, "it had flushed %d, and opens with %+v", x.status.Flushed, s)
	}
	w.isOfHistory(x, r)
	for i, e := range x.leaned {
		if i <= s.Flushed {
			continue
		}
		there := i >= s.First && i <= s.Last && j.log[i-s.First].Term == e.term
		// Another one may stand there only if a later term's leader has put it there, and never of what is committed.
		if !there && (s.Term == e.in || i <= x.status.Commit) {
			w.fail(x, "it said in the term %d that it has (%d %d), and opens with %+v", e.in, i, e.term, s)
		}
	}
}

// isOfHistory: 18.15.
func (w *world) isOfHistory(x *site, r *replica.Replica) {
	w.t.Helper()
	i := r.Status().Applied
	if i > w.h.last() {
		w.fail(x, "it has applied %d, of %d", i, w.h.last())
	}
	want := w.h.moments[i]
	sum, err := r.Machine().Digest()
	if err != api.OK || sum != want.digest || !bytes.Equal(r.Machine().State(), want.state) || fmt.Sprintf("%+v", r.Machine().Stat()) != want.stat {
		w.fail(x, "behind %d it is not what a machine is that was given all one by one", i)
	}
}

// did looks at a replica behind a call.
func (w *world) did(x *site, what string, l []api.Message, err api.Errno) {
	w.t.Helper()
	w.count[fmt.Sprintf("%s %d", what, err)]++
	if err != api.OK && len(l) > 0 {
		w.fail(x, "%s: messages beside %d", what, err)
	}
	s, log := x.r.Status(), x.r.Log()
	if s.Applied < x.status.Applied || s.Flushed < x.status.Flushed || s.Commit < x.status.Commit && err == api.OK {
		w.fail(x, "%s: it goes back from %+v to %+v", what, x.status, s)
	}
	for i := x.status.Applied + 1; i <= s.Applied; i++ {
		if what == "Receive of 2" || what == "calm Receive of 2" {
			// A snapshot took it there: by then somebody has applied all of that.
			w.count["by a snapshot"]++
			break
		}
		w.applied(x, i, slices.Concat(log, x.log))
	}
	if s.Applied > w.h.last() {
		w.fail(x, "%s: it has applied %d, which nobody has seen", what, s.Applied)
	}
	x.status, x.log = s, log
	if err == api.ErrDown || x.d.Down() {
		return
	}
	w.isOfHistory(x, x.r)
	w.answers(x)
	if err == api.OK {
		w.hear(x, l)
	}
	w.wire = append(w.wire, l...)
	w.wire = w.wire[max(0, len(w.wire)-150):]
	if w.chance.Intn(12) == 0 {
		w.mayCrash(x)
	}
}

// applied: an entry that is applied is the one log's.
func (w *world) applied(x *site, index int, log []api.LogEntry) {
	w.t.Helper()
	// A new leader's empty entry may be applied and trimmed in one tick, of a node alone.
	e := api.LogEntry{Index: index, Term: x.r.Status().Term}
	i := slices.IndexFunc(log, func(e api.LogEntry) bool { return e.Index == index })
	if i >= 0 {
		e = log[i]
	} else if len(w.sites) > 1 {
		w.fail(x, "it has applied %d, which nobody has seen", index)
	}
	if index > w.h.last() {
		w.h.add(e)
		return
	}
	if had := w.h.moments[index].entry; had.Term != e.Term || !bytes.Equal(had.Data, e.Data) {
		w.fail(x, "it has applied (%d %d), the log has (%d %d) there", index, e.Term, index, had.Term)
	}
}

// answers: what was proposed is answered as the one log's machine does it, once, in order.
func (w *world) answers(x *site) {
	w.t.Helper()
	ahead := 0
	for _, a := range x.r.Answers() {
		term, is := x.proposed[a.Index]
		if !is || a.Index <= ahead || a.Index > x.status.Applied {
			w.fail(x, "an answer to nothing: %+v", a)
		}
		delete(x.proposed, a.Index)
		ahead = a.Index
		had := w.h.moments[a.Index]
		if a.Term != had.entry.Term || (term == a.Term) != (len(a.Reply) > 0) || term == a.Term && !bytes.Equal(a.Reply, had.reply) {
			w.fail(x, "answer %+v to a proposal of the term %d, the log has %+v", a, term, had)
		}
		w.count[fmt.Sprintf("answered, its own %v", term == a.Term)]++
	}
}

// hear keeps what a replica's messages say and lean on.
func (w *world) hear(x *site, l []api.Message) {
	w.t.Helper()
	for _, m := range l {
		w.count[fmt.Sprintf("said %d", m.Kind)]++
		if m.Kind != api.PRaft {
			continue
		}
		vote, upTo := 0, 0
		switch {
		case m.Raft.Kind == api.MPreVote || m.Raft.Kind == api.MPreReply:
			continue
		case m.Raft.Kind == api.MVote:
			vote = x.id
		case m.Raft.Kind == api.MVoteReply && !m.Raft.Reject:
			vote = m.To
		case m.Raft.Kind == api.MAppendReply && !m.Raft.Reject:
			upTo = m.Raft.Index
		case m.Raft.Kind == api.MAppend:
			// A leader counts itself as having all of its log.
			upTo = x.status.Last
		}
		for _, e := range x.log {
			if e.Index <= upTo {
				x.leaned[e.Index] = word{e.Term, m.Raft.Term}
			}
		}
		x.said = max(x.said, m.Raft.Term)
		if vote != 0 {
			if had := x.votes[m.Raft.Term]; had != 0 && had != vote {
				w.fail(x, "it votes for %d and %d in the term %d", had, vote, m.Raft.Term)
			}
			x.votes[m.Raft.Term] = vote
		}
	}
}

// mayCrash: 18.14: were the power to fail now, with any tails, it would open and have what it said.
func (w *world) mayCrash(x *site) {
	w.t.Helper()
	d := copied(w.t, x.d, x.d.Capacity())
	d.Crash(w.chance.Intn(300), w.chance.Intn(300))
	r, err := replica.Open(d, "a", schema, w.conf(x), 0)
	if err != api.OK {
		w.fail(x, "were the power to fail now: %d", err)
	}
	w.holdsItsWord(x, r, d)
	if r.Status().Term < x.status.Term || r.Status().Last != x.status.Last {
		w.fail(x, "were the power to fail now: %+v, it is %+v", r.Status(), x.status)
	}
	w.count["might have crashed"]++
}

func (w *world) crash(x *site) {
	w.t.Helper()
	x.d.Crash(w.chance.Intn(400)-50, w.chance.Intn(3000)-50, w.chance.Intn(400))
	x.r = nil
	w.count["crashed"]++
}

func (w *world) draw(x *site) int {
	if w.chance.Intn(3) > 0 {
		return (x.id + w.seed) % len(w.sites) * 2
	}
	return w.chance.Intn(20)
}

func (w *world) deliver(m api.Message) {
	w.t.Helper()
	x := w.sites[m.To-1]
	if x.r == nil || w.away != 0 && (m.To == w.away || m.From == w.away) {
		return
	}
	l, err := x.r.Receive(m, w.draw(x))
	w.did(x, fmt.Sprintf("Receive of %d", m.Kind), l, err)
}

func (w *world) propose(x *site) {
	w.t.Helper()
	index, term, l, err := x.r.Propose(w.s.drawCommand())
	if err == api.OK {
		x.proposed[index] = term
	} else if index != 0 || term != 0 {
		w.fail(x, "Propose: %d, %d beside %d", index, term, err)
	}
	w.did(x, "Propose", l, err)
}

// leader is one that thinks that it leads, if there is one.
func (w *world) leader() *site {
	var l []*site
	for _, x := range w.sites {
		if x.r != nil && x.status.Role == api.RLeader {
			l = append(l, x)
		}
	}
	if len(l) == 0 {
		return nil
	}
	return l[w.chance.Intn(len(l))]
}

func (w *world) step() {
	w.t.Helper()
	x := w.sites[w.chance.Intn(len(w.sites))]
	if x.r == nil {
		if w.chance.Intn(3) == 0 {
			w.open(x)
		}
		return
	}
	switch k := w.chance.Intn(400); {
	case k < 200:
		for range 1 + w.chance.Intn(10) {
			if len(w.wire) == 0 {
				break
			}
			i := w.chance.Intn(1 + min(w.chance.Intn(20), len(w.wire)-1))
			m := w.wire[i]
			if w.chance.Intn(15) > 0 {
				w.wire = slices.Delete(w.wire, i, i+1)
			}
			if w.chance.Intn(15) > 0 {
				w.deliver(m)
			}
		}
	case k < 260:
		l, err := x.r.Tick(w.draw(x))
		w.did(x, "Tick", l, err)
	case k < 345:
		if y := w.leader(); y != nil && w.chance.Intn(4) > 0 {
			x = y
		}
		w.propose(x)
	case k < 360:
		w.did(x, "Flush", nil, x.r.Flush())
	case k < 385:
		done, err := x.r.Compact(w.chance.Intn(2) == 0, w.chance.Intn(20))
		w.did(x, fmt.Sprintf("Compact %v", done), nil, err)
	case k < 388:
		l, err := x.r.HandOver(1 + w.chance.Intn(len(w.sites)))
		w.did(x, "HandOver", l, err)
	case k < 392:
		w.away = w.chance.Intn(len(w.sites) + 1)
		if y := w.leader(); y != nil && w.chance.Intn(2) == 0 {
			w.away = y.id
		}
	case k < 399:
		x.d.Arm(w.chance.Intn(20))
	default:
		w.crash(x)
	}
	for _, x := range w.sites {
		if x.r != nil && x.d.Down() && w.chance.Intn(3) > 0 {
			w.crash(x)
		}
		if x.r != nil && x.status.Halted && w.chance.Intn(4) == 0 {
			w.count["halted"]++
			w.crash(x)
			x.d = copied(w.t, x.d, api.MaxDisk)
		}
	}
}

// calm: all are on, with room, and all that is said comes: then what is proposed is applied by all.
func (w *world) calm() {
	w.t.Helper()
	w.away = 0
	for _, x := range w.sites {
		x.d.Arm(0)
		if x.r == nil || x.d.Down() || x.status.Halted || x.d.Free() < 1<<19 {
			w.crash(x)
			x.d = copied(w.t, x.d, api.MaxDisk)
			w.open(x)
		}
		for range 30 {
			if _, err := x.r.Compact(true, 1000); err != api.OK {
				w.fail(x, "Compact: %d", err)
			}
		}
	}
	first := w.sites[0]
	for _, x := range w.sites {
		last, best := x.log, first.log
		if a, b := lastOf(last, x.status), lastOf(best, first.status); a[0] > b[0] || a[0] == b[0] && a[1] > b[1] {
			first = x
		}
	}
	proposed := 0
	for range 60 * (w.c.Raft.Most + 4) {
		for _, x := range w.sites {
			draw := w.c.Raft.Most - w.c.Raft.Least
			if x == first {
				draw = 0
			}
			l, err := x.r.Tick(draw)
			w.did(x, "calm Tick", l, err)
			for len(w.wire) > 0 {
				m := w.wire[0]
				w.wire = w.wire[1:]
				y := w.sites[m.To-1]
				d := w.c.Raft.Most - w.c.Raft.Least
				if y == first {
					d = 0
				}
				l, err := y.r.Receive(m, d)
				w.did(y, fmt.Sprintf("calm Receive of %d", m.Kind), l, err)
			}
		}
		done := proposed > 0
		for _, x := range w.sites {
			done = done && x.status.Applied >= proposed
		}
		if done {
			w.count["calm"]++
			return
		}
		if y := w.leader(); y != nil && proposed == 0 {
			index, term, l, err := y.r.Propose(noop(w.t))
			if err == api.OK {
				proposed, y.proposed[index] = index, term
			}
			w.did(y, "calm Propose", l, err)
		}
	}
	for _, x := range w.sites {
		w.t.Logf("%+v", x.status)
	}
	w.fail(first, "in the calm nothing goes on: %d", proposed)
}

// lastOf is the term and the index of a log's last entry; of one that is cut off, of what is known of it.
func lastOf(log []api.LogEntry, s api.Status) [2]int {
	if len(log) == 0 {
		return [2]int{0, s.Last}
	}
	return [2]int{log[len(log)-1].Term, s.Last}
}

// 18.14 to 18.16: whatever comes, messages lost, doubled and reordered, rooms that are too small, flushes, compactions, power that fails at any act with any tails: what was said is safe, all have applied one history, and are what a machine is that was given it one by one; and in the calm it goes on.
func TestWorlds(t *testing.T) {
	total := manySeeds(t, 208, func(t *testing.T, seed int, count map[string]int) {
		room := 1 << 20
		if seed%5 == 0 {
			room = 0
		}
		w := newWorld(t, seed, []int{1, 3, 3, 3, 5}[seed/16%5], room, count)
		for range 4 {
			for range 250 {
				w.step()
			}
		}
		w.calm()
	})
	for k, least := range map[string]int{
		"calm": 208, "crashed": 300, "opened": 300, "might have crashed": 1000, "halted": 5, "answered, its own true": 1000, "answered, its own false": 10,
		"Tick 0": 1000, "Tick 3": 20, "Receive of 1 0": 1000, "Receive of 1 3": 20, "Receive of 2 0": 100, "Receive of 3 0": 50, "Propose 0": 1000, "Propose 180": 3, "Flush 0": 100, "Flush 4": 3, "Compact true 0": 50,
		"said 2": 100, "said 3": 50,
	} {
		if total[k] < least {
			t.Errorf("%s came %d times", k, total[k])
		}
	}
}
