package cluster_test

import (
	"fmt"
	"math/rand"
	"testing"

	"strata/api"
)

// draw is one that lets nodes mostly have unlike timeouts.
func (w *world) draw(node int) int {
	if w.r.Intn(3) > 0 {
		return (node + w.seed) % w.r.nodes * 2
	}
	return w.r.Intn(20)
}

// deliver lets a packet come, unless it goes to or comes from whom none hears.
func (w *world) deliver(i int) {
	m := w.packets[i].Message
	to := m.To - 1
	if to == w.away || m.From-1 == w.away {
		err := w.x.Drop(i)
		mustErr(w.t, "Drop", err, api.OK)
		w.did("Drop", -1, 1, err)
		return
	}
	err := w.x.Deliver(i, w.draw(to))
	w.did(fmt.Sprintf("Deliver of %d", m.Kind), to, 1, err)
}

// traffic lets packets come, mostly the oldest, or doubles or loses one.
func (w *world) traffic() {
	w.t.Helper()
	for range 1 + w.r.Intn(10) {
		if len(w.packets) == 0 {
			return
		}
		i := w.r.Intn(1 + min(w.r.Intn(20), len(w.packets)-1))
		switch w.r.Intn(20) {
		case 0:
			w.did("Double", -1, 0, w.x.Double(i))
		case 1:
			w.did("Drop", -1, 1, w.x.Drop(i))
		default:
			w.deliver(i)
		}
	}
	// Who never hears of what is under way for long loses it.
	for len(w.packets) > 80 {
		w.did("Drop", -1, 1, w.x.Drop(w.r.Intn(40)))
	}
}

// command is one that no client's session is touched by.
func (w *world) command() api.Command {
	c := w.r.command()
	if c.Client > 0 {
		c.Client = 1 << 30
	}
	if w.r.Intn(12) == 0 {
		c = api.Command{Kind: api.MTick, N: 1 + w.r.Intn(45)}
	}
	return c
}

func (w *world) work(node, tablet int) {
	w.t.Helper()
	c := w.command()
	if c.Kind == api.MMutate {
		tablet = w.x.Route(c.Row)
	}
	if l := w.leader(tablet); l >= 0 && w.r.Intn(6) > 0 {
		node = l
	}
	w.propose("Propose", node, tablet, c, nil, 0)
}

func (w *world) step() {
	w.t.Helper()
	node, tablet := w.r.Intn(w.r.nodes), w.r.Intn(w.r.tablets)
	if !w.on[node] {
		if w.r.Intn(2) == 0 {
			w.start(node)
		}
		return
	}
	if w.down[node] && w.r.Intn(2) == 0 {
		w.crash(node)
		return
	}
	switch k := w.r.Intn(440); {
	case k < 180:
		w.traffic()
	case k < 250:
		w.did("Tick", node, 0, w.x.Tick(node, w.draw(node)))
	case k < 320:
		w.work(node, tablet)
	case k < 350:
		w.clients[w.r.Intn(len(w.clients))].send(w)
	case k < 360:
		w.did("Flush", node, 0, w.x.Flush(node, tablet))
	case k < 380:
		done, err := w.x.Compact(node, tablet, w.r.Intn(2) == 0, w.r.Intn(20))
		w.did(fmt.Sprintf("Compact %v", done), node, 0, err)
	case k < 383:
		w.did("HandOver", node, 0, w.x.HandOver(node, tablet, w.r.Intn(w.r.nodes)))
	case k < 400:
		w.read(node, tablet, w.r.query())
	case k < 408:
		w.scan(node, w.r.query())
	case k < 412:
		w.mightCrash(node)
	case k < 418:
		w.major(node, tablet)
	case k < 422:
		w.away = w.r.Intn(w.r.nodes+1) - 1
		if l := w.leader(tablet); l >= 0 && w.r.Intn(2) == 0 {
			w.away = l
		}
	case k < 426:
		w.away = -1
	case k < 429:
		w.did("Arm", node, 0, w.x.Arm(node, w.r.Intn(20)))
	case k < 430:
		w.crash(node)
	default:
		// Two ticks of all, and what comes of them: a leader stays one for a while.
		for i := range w.on {
			if w.on[i] {
				w.did("Tick", i, 0, w.x.Tick(i, w.draw(i)))
			}
		}
		for i := 0; len(w.packets) > 0 && i < 60; i++ {
			w.deliver(0)
		}
	}
}

// 19.13, W1 to W5: whatever calls come, packets lost, doubled and reordered, flushes, compactions, rooms that are too small, power that fails at any act with any tails: all replicas of a tablet apply beginnings of one log, read what chapter 3 reads out of it never compacted, and answer as one machine; what was said is safe; garbage goes.
func TestWorlds(t *testing.T) {
	total := manySeeds(t, 144, func(t *testing.T, seed int, count map[string]int) {
		w := newWorld(t, seed, count, func(r *rand.Rand, c *api.ClusterConfig) {
			if seed%4 == 0 {
				c.Disk = 3000 + r.Intn(40000)
			}
		})
		for range 900 {
			w.step()
		}
		for node := range w.on {
			if w.on[node] && !w.down[node] {
				for _, c := range w.clients {
					if w.sites[node][c.tablet].status.Applied == w.histories[c.tablet].last() {
						c.atEnd(w, node)
						count["at the end"]++
					}
				}
			}
		}
	})
	atLeast(t, total, map[string]int{
		"read": 2000, "scanned": 500, "might have crashed": 300, "Start 0": 300, "by a snapshot": 30, "answered, its own true": 1000, "answered, its own false": 10,
		"session": 100, "session ended": 5, "serial": 300, "serial once more": 30, "at the end": 50,
		"major, 1 runs": 100, "Flush undone": 3, "Flush 3": 5, "Compact true 0": 100, "major Compact false 3": 3,
		"Tick 3": 20, "Deliver of 1 3": 20, "Propose 180": 3, "said 2": 50, "said 3": 50, "Double 0": 500, "HandOver 0": 50,
	})
}
