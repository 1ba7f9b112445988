package cluster_test

import (
	"bytes"
	"fmt"
	"math/rand"
	"slices"
	"testing"

	"strata/api"
	"strata/wire"
)

// calm is a majority of a world's nodes, among whom all goes on in rounds.
type calm struct {
	*world
	q      []int // rising
	first  int   // whose log is behind none of theirs, and who draws shorter timeouts
	below  int   // first draws up to this
	chunks map[string]bool
}

// lastTerm is the term of the last entry of a replica's log.
func (w *world) lastTerm(node, tablet int) int {
	if log, _ := w.x.Log(node, tablet); len(log) > 0 {
		return log[len(log)-1].Term
	}
	return w.histories[tablet].moments[w.sites[node][tablet].status.Last].entry.Term
}

// isBehind tells whether the log of the node a is behind that of b.
func (w *world) isBehind(a, b, tablet int) bool {
	s, o := [2]int{w.lastTerm(a, tablet), w.sites[a][tablet].status.Last}, [2]int{w.lastTerm(b, tablet), w.sites[b][tablet].status.Last}
	return slices.Compare(s[:], o[:]) < 0
}

// best is how many tablets a node has a log of that is behind none of the others'.
func (w *world) best(node int, q []int) int {
	n := 0
	for tablet := range w.r.tablets {
		if !slices.ContainsFunc(q, func(o int) bool { return w.isBehind(node, o, tablet) }) {
			n++
		}
	}
	return n
}

// newCalm chooses a majority, and brings it to where the calm may begin: on, with disks that are up and not armed, and not stalled.
func newCalm(w *world) *calm {
	w.t.Helper()
	c := &calm{world: w, chunks: map[string]bool{}}
	n := w.r.nodes/2 + 1 + w.r.Intn(w.r.nodes-w.r.nodes/2)
	c.q = w.r.Perm(w.r.nodes)[:n]
	slices.Sort(c.q)
	for _, node := range c.q {
		c.ready(node)
	}
	c.first = slices.MaxFunc(c.q, func(a, b int) int { return w.best(a, c.q) - w.best(b, c.q) })
	for _, node := range c.q {
		for tablet := range w.r.tablets {
			if w.sites[node][tablet].status.Installing {
				w.count["staging when the calm began"]++
			}
		}
		if node != c.first && c.isStuck(node) {
			w.count["stuck"]++
			w.crash(node)
			w.start(node)
		}
	}
	c.below = w.r.Intn(w.c.Replica.Raft.Most - w.c.Replica.Raft.Least - 3)
	return c
}

func (c *calm) ready(node int) {
	c.t.Helper()
	if c.on[node] {
		_, err := c.x.Dump(node, 0)
		c.down[node] = c.down[node] || err == api.ErrDown
	}
	if c.on[node] && c.down[node] {
		c.crash(node)
	}
	if !c.on[node] {
		c.start(node)
	}
	c.did("Arm", node, 0, c.x.Arm(node, 0))
	for tablet := range c.r.tablets {
		// The first may end what is under way.
		for range 2 {
			_, err := c.x.Compact(node, tablet, true, 1<<20)
			c.did("calm Compact", node, 0, err)
			mustErr(c.t, "Compact", err, api.OK)
		}
		if c.r.Intn(3) == 0 {
			err := c.x.Flush(node, tablet)
			c.did("calm Flush", node, 0, err)
			mustErr(c.t, "Flush", err, api.OK)
		}
	}
}

// isStuck tells whether a node is staging a snapshot of a higher index than the one that will lead has flushed. By chapter 18 (18.7, 3) it passes over every lower one, until it is opened anew or that one flushes again: so it may get none, and what 19.14 says can't be.
func (c *calm) isStuck(node int) bool {
	c.t.Helper()
	for tablet := range c.r.tablets {
		if !c.sites[node][tablet].status.Installing {
			continue
		}
		l := files(c.t, c.x, node)
		i := slices.IndexFunc(l, func(f api.File) bool { return f.Name == fmt.Sprintf("t%d.SNAP", tablet) })
		body, _, err := wire.ReadFrame(l[i].Data, 0)
		if err != api.OK {
			return true
		}
		index, _, err := wire.ReadUint(body, 1)
		mustErr(c.t, "ReadUint", err, api.OK)
		if int(index) > c.sites[c.first][tablet].status.Flushed {
			return true
		}
	}
	return false
}

// draw is a node's of a round.
func (c *calm) drawOf(node int) int {
	span := c.c.Replica.Raft.Most - c.c.Replica.Raft.Least
	d := c.below + 4 + c.r.Intn(span-c.below-3)
	if node == c.first {
		d = c.r.Intn(c.below + 1)
	}
	// The same timeout by another number.
	return d + (c.r.Intn(5)-2)*(span+1)
}

// within is the oldest packet from a node of the majority to one; -1: there is none.
func (c *calm) within() int {
	return slices.IndexFunc(c.packets, func(p api.Packet) bool {
		return slices.Contains(c.q, p.Message.From-1) && slices.Contains(c.q, p.Message.To-1)
	})
}

// round: each is ticked once; then what is said among them comes, the oldest first, until there is none; all else is lost.
func (c *calm) round() {
	c.t.Helper()
	draws := map[int]int{}
	for _, node := range c.q {
		draws[node] = c.drawOf(node)
		err := c.x.Tick(node, draws[node])
		mustErr(c.t, "Tick", err, api.OK)
		c.did("calm Tick", node, 0, err)
	}
	for n := 0; c.within() >= 0; n++ {
		if n > 20000 {
			c.fail(-1, -1, "they talk for ever")
		}
		i := c.within()
		p := c.packets[i]
		if m := p.Message; m.Kind == api.PChunk {
			c.chunks[fmt.Sprint(p.Tablet, m.To, m.Index, m.Term, m.Total, m.At)] = true
		}
		err := c.x.Deliver(i, draws[p.Message.To-1])
		// What was left of two snapshots of one index may come together: it is refused, and begins anew.
		if err != api.OK && err != api.ErrSnap && err != api.ErrImage {
			c.fail(p.Message.To-1, p.Tablet, "Deliver: %d of %s", err, messageText(p.Message))
		}
		c.did("calm Deliver", p.Message.To-1, 1, err)
	}
	for len(c.packets) > 0 {
		c.did("Drop", -1, 1, c.x.Drop(0))
	}
	for _, node := range c.q {
		for tablet := range c.r.tablets {
			if s := c.sites[node][tablet].status; s.Halted {
				c.fail(node, tablet, "it has halted: %+v", s)
			}
		}
	}
}

// leads tells which node of the majority leads a tablet, in the highest term; -1: none.
func (c *calm) leads(tablet int) int {
	leader := -1
	for _, node := range c.q {
		s := c.sites[node][tablet].status
		if s.Role == api.RLeader && (leader < 0 || s.Term > c.sites[leader][tablet].status.Term) {
			leader = node
		}
	}
	return leader
}

func (c *calm) tell(tablet int) {
	for _, node := range c.q {
		c.t.Logf("node %d: %+v, last term %d", node, c.sites[node][tablet].status, c.lastTerm(node, tablet))
	}
	c.t.Logf("majority %v, first %d", c.q, c.first)
}

// goesOn: 19.14: behind so many rounds there is a leader, and what is proposed to it is applied by all of them within so many more.
func (c *calm) goesOn() {
	c.t.Helper()
	var tablets []int
	lacked := make([]int, c.r.tablets)
	for tablet := range c.r.tablets {
		// Of the others' tablets nothing is promised: there its log is behind.
		if !slices.ContainsFunc(c.q, func(o int) bool { return c.isBehind(c.first, o, tablet) }) {
			tablets = append(tablets, tablet)
		}
		for _, node := range c.q {
			lacked[tablet] += c.sites[c.first][tablet].status.Last - c.sites[node][tablet].status.Commit
		}
	}
	bound := 4 * (c.c.Replica.Raft.Most + 4)
	for i := range bound {
		c.round()
		for _, tablet := range tablets {
			if c.leads(tablet) >= 0 {
				c.count[fmt.Sprintf("a leader behind %d times Most", i/c.c.Replica.Raft.Most)]++
			}
		}
	}
	for _, tablet := range tablets {
		if c.leads(tablet) < 0 {
			c.tell(tablet)
			c.fail(-1, tablet, "no leader behind %d rounds", bound)
		}
	}
	c.commandsComeThrough(tablets, lacked, bound)
}

func (c *calm) commandsComeThrough(tablets, lacked []int, bound int) {
	c.t.Helper()
	left := slices.Clone(tablets)
	for i := 0; len(left) > 0; i++ {
		for _, tablet := range left {
			if i > bound+lacked[tablet]/api.MaxBatch+len(c.chunks) {
				c.tell(tablet)
				c.fail(-1, tablet, "in %d rounds nothing goes on", i)
			}
			node := c.leads(tablet)
			if node < 0 {
				continue
			}
			row := "a-calm"
			if tablet > 0 {
				row = string(c.c.Splits[tablet-1]) + "-calm"
			}
			_, _, err := c.propose("calm Propose", node, tablet, put(row, fmt.Sprint(c.seed)), nil, 0)
			mustErr(c.t, "Propose", err, api.OK)
		}
		c.round()
		left = slices.DeleteFunc(left, func(tablet int) bool { return c.isThrough(tablet) })
	}
	c.count["calm"]++
	c.count["chunks in the calm"] += len(c.chunks)
}

// lag lets a node fall so far behind that it needs a snapshot of many chunks, some of which may have come.
func (w *world) lag() {
	w.t.Helper()
	tablet := w.r.Intn(w.r.tablets)
	row := "a"
	if tablet > 0 {
		row = string(w.c.Splits[tablet-1])
	}
	w.away = w.r.Intn(w.r.nodes)
	for i := range 20 {
		for node := range w.on {
			if !w.on[node] {
				w.start(node)
			}
			w.did("Tick", node, 0, w.x.Tick(node, w.draw(node)))
		}
		for n := 0; len(w.packets) > 0 && n < 300; n++ {
			w.deliver(0)
		}
		if l := w.leader(tablet); l >= 0 && l != w.away {
			w.propose("Propose", l, tablet, puts(fmt.Sprint(row, i), 4, 'x'), nil, 0)
		}
		if node := w.r.Intn(w.r.nodes); w.r.Intn(3) == 0 {
			w.did("Flush", node, 0, w.x.Flush(node, tablet))
		}
	}
	w.away = -1
	if l := w.leader(tablet); l >= 0 {
		w.did("Flush", l, 0, w.x.Flush(l, tablet))
		for range 1 + w.r.Intn(3) {
			w.did("Tick", l, 0, w.x.Tick(l, 0))
		}
	}
	for n := w.r.Intn(40); len(w.packets) > 0 && n > 0; n-- {
		w.deliver(w.r.Intn(min(2, len(w.packets))))
	}
}

// isThrough tells whether what was proposed in the calm is applied by all of them.
func (c *calm) isThrough(tablet int) bool {
	h := c.histories[tablet]
	at := slices.IndexFunc(h.moments, func(m moment) bool { return bytes.Contains(m.entry.Data, []byte("-calm")) })
	return at > 0 && !slices.ContainsFunc(c.q, func(node int) bool { return c.sites[node][tablet].status.Applied < at })
}

// 19.14, W6: whatever was ahead of it, in the calm of a majority it goes on.
func TestCalm(t *testing.T) {
	total := manySeeds(t, 96, func(t *testing.T, seed int, count map[string]int) {
		w := newWorld(t, seed, count, func(r *rand.Rand, c *api.ClusterConfig) {
			c.Disk = 1 << 23
			c.Replica.Tree.Stall = 60
			if seed%3 == 0 {
				c.Replica.Tree.Mem = 100 + r.Intn(100)
			}
		})
		for range 100 + w.r.Intn(500) {
			w.step()
		}
		if seed%2 == 0 {
			w.lag()
		}
		newCalm(w).goesOn()
	})
	atLeast(t, total, map[string]int{"calm": 96, "chunks in the calm": 100, "staging when the calm began": 10})
}
