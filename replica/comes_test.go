package replica_test

import (
	"fmt"
	"math/rand"
	"slices"
	"testing"

	"strata/api"
)

// 18.17: a snapshot of many chunks comes, whatever is lost, doubled and reordered between the two, whatever the sender applies and squashes meanwhile, and though the receiver crashes on the way.
func TestASnapshotComes(t *testing.T) {
	total := manySeeds(t, 64, func(t *testing.T, seed int, count map[string]int) {
		r := rand.New(rand.NewSource(int64(seed)))
		g := newGroup(t, 3)
		g.config = func(c *api.ReplicaConfig) { c.Tree.Mem, c.Tree.Stall = 1<<20, 30 }
		g.begin()
		g.lead(1, 2)
		for i := range 5 + r.Intn(10) {
			g.propose(1, puts(t, fmt.Sprint("row", i%6), 1+r.Intn(8), byte(i)), 2)
			if i%3 == 2 {
				mustErr(t, "Flush", g.of(1).Flush(), api.OK)
			}
		}
		flush(t, g.of(1))
		flushed := g.of(1).Status().Flushed
		var wire []api.Message
		send := func(l []api.Message) {
			for _, m := range l {
				// What the first and the second say to each other comes at once.
				if m.From != 3 && m.To != 3 {
					g.wire = append(g.wire, m)
				} else if m.From != 2 && m.To != 2 {
					wire = append(wire, m)
				}
			}
		}
		loss, crashes := 1+r.Intn(3), 0
		for step := 0; g.of(3).Status().Applied < flushed; step++ {
			if step > 6000 {
				t.Fatalf("seed %d: it does not come: %+v", seed, g.of(3).Status())
			}
			switch k := r.Intn(40); {
			case k < 6:
				send(tick(t, g.of(1)))
			case k < 7:
				_, _, l, err := g.of(1).Propose(put(t, fmt.Sprint("more", step), "v"))
				mustErr(t, "Propose", err, api.OK)
				send(l)
			case k < 8:
				_, err := g.of(1).Compact(r.Intn(2) == 0, r.Intn(9))
				mustErr(t, "Compact", err, api.OK)
			case k < 9 && crashes < 2 && r.Intn(4) == 0:
				crashes++
				g.disks[2].Crash(r.Intn(20000))
				g.open(3)
				count["crashed"]++
			case len(wire) > 0:
				i := r.Intn(min(len(wire), 1+r.Intn(8)))
				m := wire[i]
				if r.Intn(6) > 0 {
					wire = slices.Delete(wire, i, i+1)
				}
				if r.Intn(5) < loss {
					count["lost"]++
					break
				}
				count[fmt.Sprintf("came %d", m.Kind)]++
				send(receive(t, g.of(m.To), m))
			}
			for len(g.wire) > 0 {
				m := g.wire[0]
				g.wire = g.wire[1:]
				send(receive(t, g.of(m.To), m))
			}
			// What is under way for too long is lost.
			wire = wire[max(0, len(wire)-12):]
			if g.of(1).Status().Role != api.RLeader {
				t.Fatalf("seed %d: the sender does not lead any more", seed)
			}
		}
		count["came"]++
		s := g.of(3).Status()
		if s.Flushed < flushed || s.Installing || has(g.disks[2], "aSNAP") {
			t.Fatalf("seed %d: %+v", seed, s)
		}
		// With all that is said coming, it has all.
		for range 20 {
			g.tick(1)
		}
		if digest(t, g.of(1)) != digest(t, g.of(3)) || g.of(3).Status().Applied != g.of(1).Status().Applied {
			t.Fatalf("seed %d: %+v, %+v", seed, g.of(1).Status(), g.of(3).Status())
		}
	})
	for k, least := range map[string]int{"came": 64, "came 2": 300, "came 3": 300, "lost": 1000, "crashed": 10} {
		if total[k] < least {
			t.Errorf("%s: %d times", k, total[k])
		}
	}
}

// 18.7, 18.17: chunks of two snapshots of one Index, Term and Total come together: what is staged is refused, and it begins anew; or it is taken, and says the same.
func TestChunksOfTwoSnapshots(t *testing.T) {
	x, term := image(t, 8, "value")
	// The same runs, each written once more with another block: like a squash, but of the same length only by chance. So bytes of one are put among the other's.
	a := snapBytes(x, term)
	b := slices.Clone(a)
	for i := len(b) - 100; i < len(b); i++ {
		b[i] ^= 0x55
	}
	r, d := follower(t, 1<<20, 1)
	l, k := chunks(a, 9, term, 200), chunks(b, 9, term, 200)
	for _, m := range l[:len(l)-1] {
		receive(t, r, m)
	}
	out, err := r.Receive(k[len(k)-1], 0)
	if len(out) > 0 || err != api.ErrImage || r.Status().Installing || has(d, "aSNAP") {
		t.Fatalf("%s, %d, %+v", text(out), err, r.Status())
	}
	mustSend(t, "the next chunk", receive(t, r, l[3]), got(l[3], 0))
	for _, m := range l {
		receive(t, r, m)
	}
	if s := r.Status(); s.Applied != 9 {
		t.Errorf("%+v", s)
	}
}
