package replica_test

import (
	"bytes"
	"fmt"
	"math"
	"math/rand"
	"slices"
	"testing"
	"unsafe"

	"strata/api"
	"strata/replica"
)

// roomy is bytes with spare room behind them that can be looked at.
func roomy(b []byte) []byte {
	whole := slices.Concat(b, bytes.Repeat([]byte{0xc3}, 64))
	return whole[:len(b):len(whole)]
}

// borrowed is a text over bytes that may yet change.
func borrowed(b []byte) string { return unsafe.String(unsafe.SliceData(b), len(b)) }

// handed is a message that is handed in, with spare room behind all its lists.
func handed(m api.Message) api.Message {
	m.Data = roomy(m.Data)
	var l []api.LogEntry
	for _, e := range m.Raft.Entries {
		e.Data = roomy(e.Data)
		l = append(l, e)
	}
	n := len(l)
	for i := range 5 {
		l = append(l, api.LogEntry{Index: 7 + i, Term: 77, Data: roomy([]byte("spare"))})
	}
	m.Raft.Entries = l[:n]
	return m
}

// seen: a message with all the spare room of its lists, as text.
func seen(m api.Message) string {
	m.Raft.Entries = m.Raft.Entries[:cap(m.Raft.Entries)]
	out := fmt.Sprintf("%x", m.Data[:cap(m.Data)])
	for _, e := range m.Raft.Entries {
		out += fmt.Sprintf("(%d %d %x)", e.Index, e.Term, e.Data[:cap(e.Data)])
	}
	return out + messageText(m)
}

// flip writes over bytes and their spare room.
func flip(b []byte) {
	b = b[:cap(b)]
	for i := range b {
		b[i] = ^b[i]
	}
}

// scribble writes over all lists of a message, with all spare room.
func scribble(m api.Message) {
	flip(m.Data)
	scribbleLog(m.Raft.Entries)
}

func scribbleLog(l []api.LogEntry) {
	l = l[:cap(l)]
	for i := range l {
		flip(l[i].Data)
		l[i] = api.LogEntry{Index: -1, Term: -1}
	}
}

// 18.18: what a replica is opened with is not changed, and not kept.
func TestWhatItIsOpenedWithIsNotKept(t *testing.T) {
	d := newDisk(t, 1<<20)
	prefix, name := []byte("a"), []byte("f")
	c := config(2, 3)
	c.Raft.Peers = append(c.Raft.Peers, 9, 9)[:3]
	s := api.Schema{Fams: []api.Family{{Name: borrowed(name), Max: 2}, {Name: "g", Max: 3, TTL: 30}, {Name: "spare"}}[:2]}
	r, err := replica.Open(d, borrowed(prefix), s, c, 0)
	mustErr(t, "Open", err, api.OK)
	if !slices.Equal(c.Raft.Peers[:5], []int{1, 2, 3, 9, 9}) || s.Fams[:3][2].Name != "spare" || string(prefix) != "a" {
		t.Error("what was handed in has changed")
	}
	prefix[0], name[0] = 'x', 'y'
	for i := range c.Raft.Peers {
		c.Raft.Peers[i] = 7
	}
	s.Fams[0], s.Fams[1] = api.Family{}, api.Family{}
	receive(t, r, appending(1, 0, 0, 3, entries(t, 1, 3, 1)...))
	flush(t, r)
	if name := r.Tree().Schema().Fams[0].Name; name != "f" || !has(d, "aMANIFEST") || len(d.List("a")) != len(d.List("")) {
		t.Errorf("%s, %s", name, told(d))
	}
	x, term := image(t, 8, "value")
	l := chunks(snapBytes(x, term), 9, term, 300)
	for _, m := range l[:len(l)-1] {
		receive(t, r, m)
	}
	if !has(d, "aSNAP") {
		t.Errorf("it is staged elsewhere: %s", told(d))
	}
	receive(t, r, l[len(l)-1])
	if r.Status().Applied != 9 || len(d.List("a")) != len(d.List("")) {
		t.Errorf("%+v, %s", r.Status(), told(d))
	}
	_, err = r.Receive(api.Message{Kind: api.PGot, From: 7, To: 2}, 0)
	mustErr(t, "of no peer", err, api.ErrPeer)
}

// 18.18: messages and commands that are handed in are not changed, nor the room behind them, and not kept: two groups, of which one's are written over behind each call, are the same.
func TestWhatIsHandedInIsNeitherChangedNorKept(t *testing.T) {
	g, h := newGroup(t, 3), newGroup(t, 3)
	do := func(id int, call func(r *replica.Replica, spoil bool) []api.Message) {
		t.Helper()
		a, b := call(g.of(id), false), call(h.of(id), true)
		if text(a) != text(b) || g.of(id).Status() != h.of(id).Status() || entriesText(g.of(id).Log()) != entriesText(h.of(id).Log()) {
			t.Fatalf("got\n%s\nwant\n%s", text(b), text(a))
		}
		if !sameFiles(g.disks[id-1].Files(), h.disks[id-1].Files()) {
			t.Fatal("the disks are others")
		}
		g.wire = append(g.wire, a...)
	}
	settle := func(away int) {
		for len(g.wire) > 0 {
			m := g.wire[0]
			g.wire = g.wire[1:]
			if m.To == away {
				continue
			}
			do(m.To, func(r *replica.Replica, spoil bool) []api.Message {
				if !spoil {
					return receive(t, r, m)
				}
				x := handed(m)
				was := seen(x)
				// Refused, it may be looked at no less.
				y := x
				y.To = 7
				_, err := r.Receive(y, 0)
				mustErr(t, "not to it", err, api.ErrPeer)
				l := receive(t, r, x)
				if seen(x) != was {
					t.Fatalf("Receive has changed what was handed in: %s", was)
				}
				scribble(x)
				return l
			})
		}
	}
	for range 6 {
		do(1, func(r *replica.Replica, _ bool) []api.Message { return tick(t, r) })
		settle(3)
	}
	for i := range 6 {
		command := puts(t, fmt.Sprint("row", i), 2, byte(i))
		do(1, func(r *replica.Replica, spoil bool) []api.Message {
			c := roomy(command)
			l := propose(t, r, c)
			if !bytes.Equal(c[:cap(c)], roomy(command)[:cap(c)]) {
				t.Fatal("Propose has changed what was handed in")
			}
			if spoil {
				flip(c)
			}
			return l
		})
		settle(3)
	}
	do(1, func(r *replica.Replica, _ bool) []api.Message { flush(t, r); return nil })
	for range 5 {
		do(1, func(r *replica.Replica, _ bool) []api.Message { return tick(t, r) })
		settle(0)
	}
	for id := 1; id <= 3; id++ {
		if s := h.of(id).Status(); s.Applied != 7 || digest(t, g.of(id)) != digest(t, h.of(id)) {
			t.Errorf("%+v", s)
		}
	}
	// A question's lists.
	q := api.Query{From: roomy([]byte("row1")), To: roomy([]byte("row4")), Fams: []int{0}, Prefix: roomy(nil), N: 1, Rows: 9}
	a, err := h.of(1).Query(q)
	mustErr(t, "Query", err, api.OK)
	flip(q.From)
	flip(q.To)
	if len(a.Rows) != 3 || string(a.Rows[0].Row) != "row1" {
		t.Errorf("%d rows", len(a.Rows))
	}
}

// 18.18: answers are new memory, spare room too, and no two lists of one share any: two groups, of which one's answers are written over, go the same way.
func TestAnswersAreNewMemory(t *testing.T) {
	g, h := newGroup(t, 3), newGroup(t, 3)
	both := func(id int, call func(r *replica.Replica) []api.Message) {
		t.Helper()
		a, b := call(g.of(id)), call(h.of(id))
		if text(a) != text(b) {
			t.Fatalf("got\n%.2000s\nwant\n%.2000s", text(b), text(a))
		}
		disjoint(t, b)
		for _, m := range b {
			scribble(m)
		}
		for i := range b[:cap(b)] {
			b[:cap(b)][i] = api.Message{}
		}
		log := h.of(id).Log()
		_ = append(log, api.LogEntry{Index: 99})
		scribbleLog(log)
		answers := h.of(id).Answers()
		g.of(id).Answers()
		for _, x := range answers {
			flip(x.Reply)
		}
		g.wire = append(g.wire, a...)
	}
	settle := func(away int) {
		for len(g.wire) > 0 {
			m := g.wire[0]
			g.wire = g.wire[1:]
			if m.To != away && m.From != away {
				both(m.To, func(r *replica.Replica) []api.Message { return receive(t, r, m) })
			}
		}
	}
	session := encode(t, api.Command{Kind: api.MOpen})
	add := encode(t, api.Command{Kind: api.MMutate, Client: 2, Serial: 1, Row: []byte("n"), Ops: []api.Op{{Kind: api.OAdd, Qual: []byte("q"), Delta: 3}}})
	for range 6 {
		both(1, func(r *replica.Replica) []api.Message { return tick(t, r) })
		settle(3)
	}
	for i, c := range [][]byte{session, add, add, puts(t, "a", 3, 'a'), puts(t, "b", 3, 'b'), add} {
		both(1, func(r *replica.Replica) []api.Message { return propose(t, r, c) })
		if i%2 == 0 {
			settle(3)
		}
	}
	settle(3)
	both(1, func(r *replica.Replica) []api.Message { flush(t, r); return nil })
	for range 4 {
		both(1, func(r *replica.Replica) []api.Message { return tick(t, r) })
		both(1, func(r *replica.Replica) []api.Message { return tick(t, r) })
		settle(0)
	}
	for id := 1; id <= 3; id++ {
		a, b := g.of(id), h.of(id)
		if a.Status() != b.Status() || digest(t, a) != digest(t, b) || !bytes.Equal(a.Machine().State(), b.Machine().State()) || !sameFiles(g.disks[id-1].Files(), h.disks[id-1].Files()) {
			t.Errorf("%d: %+v, want %+v", id, b.Status(), a.Status())
		}
		if s := b.Status(); s.Applied != 7 {
			t.Errorf("%+v", s)
		}
	}
}

// disjoint: a mark written into each list and its spare room is seen in no other.
func disjoint(t *testing.T, l []api.Message) {
	t.Helper()
	var all [][]byte
	for _, m := range l {
		all = append(all, m.Data)
		for _, e := range m.Raft.Entries {
			all = append(all, e.Data)
		}
	}
	var kept [][]byte
	for i, b := range all {
		kept = append(kept, bytes.Clone(b[:cap(b)]))
		for k := range b[:cap(b)] {
			b[:cap(b)][k] = byte(i + 1)
		}
	}
	for i, b := range all {
		for k, c := range b[:cap(b)] {
			if c != byte(i+1) {
				t.Fatal("two lists of one answer share memory")
			}
			b[:cap(b)][k] = kept[i][k]
		}
	}
}

// 18.18: every call ends and none panics, whatever it is given, of a replica in whatever state.
func TestNothingPanics(t *testing.T) {
	extremes := []int{math.MinInt, -1 << 40, -1, 0, 1, 2, 3, 4, 8, 9, 17, 1 << 20, 1<<26 - 1, 1 << 26, 1<<26 + 1, 1 << 40, 1<<40 + 1, math.MaxInt - 1, math.MaxInt}
	r := rand.New(rand.NewSource(1))
	any := func() int { return extremes[r.Intn(len(extremes))] }
	near := func(n int) int {
		if r.Intn(4) == 0 {
			return any()
		}
		return n
	}
	for round := range 150 {
		g := newGroup(t, 3)
		g.lead(1)
		g.propose(1, put(t, "a", "1"))
		flush(t, g.of(1))
		flush(t, g.of(2))
		d, x := g.disks[round%2], g.of(1+round%2)
		id := 1 + round%2
		for range 400 {
			l := make([]api.LogEntry, r.Intn(3))
			for i := range l {
				l[i] = api.LogEntry{Index: near(3 + i), Term: near(1), Data: make([]byte, r.Intn(3))}
			}
			m := api.Message{
				Kind: near(1 + r.Intn(3)), From: near(4 - id - r.Intn(2)), To: near(id), Index: near(3 + r.Intn(3)), Term: near(1), At: near(0), Total: near(40), Data: make([]byte, r.Intn(41)),
				Raft: api.Msg{Kind: near(1 + r.Intn(8)), From: near(3), To: near(id), Term: near(1 + r.Intn(2)), Index: near(2), LogTerm: near(1), Commit: near(2), Hint: near(1), Reject: r.Intn(2) == 0, Entries: l},
			}
			switch r.Intn(8) {
			case 0:
				x.Tick(any())
			case 1:
				x.HandOver(any())
			case 2:
				x.Propose(make([]byte, r.Intn(9)))
			case 3:
				x.Compact(r.Intn(2) == 0, any())
			case 4:
				x.Query(api.Query{N: any(), Rows: any(), Time: any(), Fams: []int{any()}, Where: "x", Token: make([]byte, r.Intn(9))})
			default:
				x.Receive(m, any())
			}
			x.Status()
			x.Log()
			x.Answers()
		}
		d.Crash()
		replica.Open(d, "a", schema, g.conf(id), any())
	}
	for range 3000 {
		c := config(any(), 3)
		c.Raft = api.RaftConfig{ID: near(1), Peers: []int{near(1), near(2), near(3)}[:r.Intn(4)], Least: near(3), Most: near(5), Beat: near(1), Batch: near(4)}
		c.Tree = api.Options{Block: near(256), Bits: near(8), Mem: near(1000), Stall: near(8)}
		c.Policy = api.Policy{Width: near(2), Ratio: near(2), Most: near(8)}
		c.Segment = near(256)
		d := newDisk(t, r.Intn(3)*1000)
		if y, err := replica.Open(d, "a", api.Schema{Fams: []api.Family{{Name: "f", Max: near(1), TTL: near(1)}}}, c, any()); (y == nil) != (err != api.OK) {
			t.Fatalf("Open of %+v: %v, %d", c, y, err)
		}
	}
}

// 18.2, 18.18: whatever lies on the disk, Open ends, and answers a replica or an error.
func TestOpenOfAnything(t *testing.T) {
	o := grown(t)
	x, term := image(t, 3, "value")
	o.withBytes("aSNAP", snapBytes(x, term))
	r := rand.New(rand.NewSource(2))
	opened := 0
	for range 3000 {
		d := load(t, 1<<20, o.files...)
		for range 1 + r.Intn(3) {
			names := d.List("")
			name := names[r.Intn(len(names))]
			switch size, _ := d.Size(name); r.Intn(4) {
			case 0:
				d.Delete(name)
			case 1:
				d.Append(name, make([]byte, r.Intn(20)))
			case 2:
				d.Rename(name, []string{"aSNAP", "aMANIFEST", "aRUN-1", "aRUN-2", "aJ-1", "aJ-2", "aJ-3", "aJ.TMP"}[r.Intn(8)])
			default:
				d.Flip(name, r.Intn(8*size+1))
			}
		}
		y, err := replica.Open(d, "a", schema, config(1, 1), r.Intn(9))
		if (y == nil) != (err != api.OK) {
			t.Fatalf("%v, %d", y, err)
		}
		if y != nil {
			opened++
			for range 8 {
				y.Tick(0)
			}
			y.Flush()
		}
	}
	if opened < 30 || opened > 2900 {
		t.Errorf("%d were opened", opened)
	}
}
