package replica_test

import (
	"bytes"
	"fmt"
	"math"
	"slices"
	"testing"

	"strata/api"
	"strata/disk"
	"strata/replica"
)

// got is what the peer 2 tells the sender of a chunk.
func got(m api.Message, at int) api.Message {
	return api.Message{Kind: api.PGot, From: 2, To: m.From, Index: m.Index, Term: m.Term, At: at, Total: m.Total}
}

// snapOn is the bytes of what is staged on a disk; false: there is no file.
func snapOn(t *testing.T, d *disk.Disk) ([]byte, bool) {
	t.Helper()
	size, err := d.Size("aSNAP")
	if err == api.ErrNoFile {
		return nil, false
	}
	mustErr(t, "Size", err, api.OK)
	b, err := d.Read("aSNAP", 0, size)
	mustErr(t, "Read", err, api.OK)
	return b, true
}

// mustStage: what is answered to a chunk, and what is then staged (nil: nothing).
func mustStage(t *testing.T, what string, r *replica.Replica, d *disk.Disk, m api.Message, staged []byte, want ...api.Message) {
	t.Helper()
	mustSend(t, what, receive(t, r, m), want...)
	b, there := snapOn(t, d)
	if r.Status().Installing != (staged != nil) || there != (staged != nil) || !bytes.Equal(b, staged) {
		t.Fatalf("%s: installing %v, %d bytes are staged, want %d", what, r.Status().Installing, len(b), len(staged))
	}
}

// 18.7: a chunk that may not be is refused, whether something is being staged or not.
func TestChunksThatMayNotBe(t *testing.T) {
	good := api.Message{Kind: api.PChunk, From: 1, To: 2, Index: 9, Term: 1, Total: 100, At: 10, Data: make([]byte, 10)}
	var l []wrong
	add := func(what string, change func(m *api.Message, n int), values ...int) {
		for _, n := range values {
			m := good
			change(&m, n)
			l = append(l, wrong{fmt.Sprintf("%s %d", what, n), m, api.ErrSnap})
		}
	}
	add("Index", func(m *api.Message, n int) { m.Index = n }, math.MinInt, -1, 0, api.MaxIndex+1, math.MaxInt)
	add("Term", func(m *api.Message, n int) { m.Term = n }, math.MinInt, -1, 0, api.MaxTerm+1, math.MaxInt)
	add("Total", func(m *api.Message, n int) { m.Total = n }, math.MinInt, -1, 0, 19, api.MaxDisk+1, math.MaxInt)
	add("At", func(m *api.Message, n int) { m.At = n }, math.MinInt, -1, 91, 100, 101, math.MaxInt-9, math.MaxInt)
	add("Data", func(m *api.Message, n int) { m.Data, m.Total = make([]byte, n), api.MaxDisk }, 0, api.MaxChunk+1, 1<<20)
	r, d := follower(t, 1<<20, 2, entries(t, 1, 3, 1)...)
	mustStay(t, r, d.Files, l...)
	first := good
	first.At = 0
	mustStage(t, "a first chunk", r, d, first, make([]byte, 10), got(first, 10))
	mustStay(t, r, d.Files, l...)
	// At the bounds they are taken.
	x := good
	x.Index, x.Term, x.Total, x.At, x.Data = 10, 2, api.MaxDisk, api.MaxDisk-api.MaxChunk, make([]byte, api.MaxChunk)
	mustStage(t, "at all bounds", r, d, x, make([]byte, 10), got(x, 0))
	x.Index = api.MaxIndex
	mustStage(t, "at the last index", r, d, x, make([]byte, 10), got(x, 0))
	x.Term = api.MaxTerm
	mustStage(t, "at the last term, which is above", r, d, x, make([]byte, 10))
	x = good
	x.At = 90
	mustStage(t, "the last bytes", r, d, x, make([]byte, 10), got(x, 10))
}

// 18.7: chunks that come in order, twice, too early, and of other snapshots.
func TestStaging(t *testing.T) {
	b := make([]byte, 1000)
	for i := range b {
		b[i] = byte(i)
	}
	l := chunks(b, 9, 2, 100)
	r, d := follower(t, 1<<20, 2, entries(t, 1, 3, 1)...)
	receive(t, r, appending(2, 3, 1, 3))
	at := func(i, from, index, term, total int) api.Message {
		m := l[i]
		m.From, m.Index, m.Term, m.Total = from, index, term, total
		return m
	}
	mustStage(t, "not the first", r, d, l[1], nil, got(l[1], 0))
	mustStage(t, "of a higher term", r, d, at(0, 1, 9, 3, 1000), nil)
	mustStage(t, "of a higher term, that is committed", r, d, at(0, 1, 2, 3, 1000), nil)
	mustStage(t, "that is committed", r, d, at(0, 1, 3, 2, 1000), nil, got(at(0, 1, 3, 2, 1000), 1000))
	mustStage(t, "far behind what is committed", r, d, at(3, 3, 1, 1, 1000), nil, got(at(3, 3, 1, 1, 1000), 1000))
	mustStage(t, "the first", r, d, l[0], b[:100], got(l[0], 100))
	mustStage(t, "the first again", r, d, l[0], b[:100], got(l[0], 100))
	mustStage(t, "too early", r, d, l[2], b[:100], got(l[2], 100))
	mustStage(t, "the second", r, d, l[1], b[:200], got(l[1], 200))
	odd := l[2]
	odd.Data = b[200:201]
	mustStage(t, "one byte", r, d, odd, b[:201], got(odd, 201))
	mustStage(t, "that one whole", r, d, l[2], b[:201], got(l[2], 201))
	odd.At, odd.Data = 201, b[201:300]
	mustStage(t, "the rest of it", r, d, odd, b[:300], got(odd, 300))
	mustStage(t, "the second again", r, d, l[1], b[:300], got(l[1], 300))
	// Others, from their midst on: what is staged stays.
	for _, m := range []api.Message{at(4, 3, 9, 2, 1000), at(4, 1, 10, 2, 1000), at(4, 1, 9, 1, 1000), at(4, 1, 9, 2, 1001)} {
		mustStage(t, "another one's midst", r, d, m, b[:300], got(m, 0))
	}
	mustStage(t, "the next one", r, d, l[3], b[:400], got(l[3], 400))
	mustStage(t, "one of a lower index", r, d, at(0, 1, 8, 2, 1000), b[:400])
	mustStage(t, "one of a lower index's midst", r, d, at(4, 3, 8, 2, 1000), b[:400])
	mustStage(t, "one that is committed", r, d, at(0, 1, 3, 1, 1000), b[:400], got(at(0, 1, 3, 1, 1000), 1000))
	mustStage(t, "one of a higher term", r, d, at(0, 1, 10, 3, 1000), b[:400])
	// Others, from their beginning on: they take its place.
	for _, m := range []api.Message{at(0, 3, 9, 2, 1000), at(0, 1, 10, 2, 1000), at(0, 1, 10, 1, 1000), at(0, 1, 10, 1, 1001)} {
		mustStage(t, "another one", r, d, m, b[:100], got(m, 100))
		m.At, m.Data = 100, b[100:150]
		mustStage(t, "another one's next", r, d, m, b[:150], got(m, 150))
	}
	mustStage(t, "the old one, of a lower index now", r, d, l[4], b[:150])
	// Once it is committed here, no more is needed; what is staged stays where it is.
	receive(t, r, appending(2, 3, 1, 3, entries(t, 4, 8, 2)...))
	receive(t, r, appending(2, 11, 2, 11))
	m := at(0, 1, 10, 1, 1001)
	mustStage(t, "committed meanwhile", r, d, m, b[:150], got(m, 1001))
	m = at(0, 1, 12, 1, 1001)
	mustStage(t, "a later one", r, d, m, b[:100], got(m, 100))
}

// 18.7: a leader takes no chunk, and refuses one that may not be.
func TestALeaderStagesNothing(t *testing.T) {
	g := newGroup(t, 3)
	g.lead(2)
	m := api.Message{Kind: api.PChunk, From: 1, To: 2, Index: 99, Term: 1, Total: 100, Data: make([]byte, 10)}
	mustStage(t, "at a leader", g.of(2), g.disks[1], m, nil)
	m.Index = 1
	mustStage(t, "at a leader, committed", g.of(2), g.disks[1], m, nil)
	m.Index = 0
	mustStay(t, g.of(2), g.disks[1].Files, wrong{"of no index", m, api.ErrSnap})
}

// 18.7: what was staged is forgotten behind Open, and a file that lies there is none of it.
func TestStagingBeginsOverAFile(t *testing.T) {
	b := make([]byte, 300)
	l := chunks(b, 9, 1, 100)
	r, d := follower(t, 1<<20, 1)
	mustStage(t, "the first", r, d, l[0], b[:100], got(l[0], 100))
	r = open(t, d, config(2, 3))
	if r.Status().Installing || has(d, "aSNAP") {
		t.Fatalf("%+v, %s", r.Status(), told(d))
	}
	mustStage(t, "the second", r, d, l[1], nil, got(l[1], 0))
	mustErr(t, "Create", d.Create("aSNAP"), api.OK)
	mustErr(t, "Append", d.Append("aSNAP", []byte("somebody's")), api.OK)
	mustStage(t, "the first again", r, d, l[0], b[:100], got(l[0], 100))
}

// 18.7, 18.16: where there is no room for a chunk, or for the file, all of it goes, and it goes on without.
func TestStagingWithoutRoom(t *testing.T) {
	b := make([]byte, 5000)
	l := chunks(b, 9, 1, 1000)
	r, d := follower(t, 1<<14, 1)
	mustErr(t, "Create", d.Create("zz"), api.OK)
	mustErr(t, "Append", d.Append("zz", make([]byte, d.Free()-2999)), api.OK)
	for range 2 {
		mustStage(t, "the first", r, d, l[0], b[:1000], got(l[0], 1000))
		mustStage(t, "the second", r, d, l[1], b[:2000], got(l[1], 2000))
		mustStage(t, "the third", r, d, l[2], nil)
		mustStage(t, "the fourth", r, d, l[3], nil, got(l[3], 0))
	}
	if s := r.Status(); s.Halted {
		t.Errorf("%+v", s)
	}
	receive(t, r, appending(1, 0, 0, 3, entries(t, 1, 3, 1)...))
	if s := r.Status(); s.Applied != 3 {
		t.Errorf("%+v", s)
	}
	// A byte more, and the third is taken.
	mustErr(t, "Delete", d.Delete("zz"), api.OK)
	mustErr(t, "Create", d.Create("zz"), api.OK)
	mustErr(t, "Append", d.Append("zz", make([]byte, d.Free()-3000)), api.OK)
	for i, m := range l[:3] {
		mustStage(t, "with a byte more", r, d, m, b[:1000*(i+1)], got(m, 1000*(i+1)))
	}
	// Without a file.
	r, d = follower(t, 1<<14, 1)
	for i := len(d.List("")); i < api.MaxFiles; i++ {
		mustErr(t, "Create", d.Create(fmt.Sprint("z", i)), api.OK)
	}
	mustStage(t, "without a file", r, d, l[0], nil)
	mustErr(t, "Delete", d.Delete("z255"), api.OK)
	mustStage(t, "with one", r, d, l[0], b[:1000], got(l[0], 1000))
	other := l[0]
	other.Index = 10
	mustStage(t, "another one in its place", r, d, other, b[:1000], got(other, 1000))
}

// 18.7: power that fails at an act of it is told, also at the delete of what found no room; behind it nothing is left.
func TestStagingWherePowerFails(t *testing.T) {
	b := make([]byte, 5000)
	l := chunks(b, 9, 1, 1000)
	other := slices.Clone(l)
	for i := range other {
		other[i].Index = 10
	}
	for _, c := range []struct {
		what  string
		ahead []api.Message
		room  int // bytes that are left then
		m     api.Message
		acts  int
	}{
		{"the first", nil, 9000, l[0], 2},
		{"the second", l[:1], 9000, l[1], 1},
		{"another one in its place", l[:2], 9000, other[0], 3},
		{"one without room", l[:1], 999, l[1], 1},
		{"a first one without room", nil, 999, l[0], 2},
		{"another one in its place without room", l[:1], -1, other[0], 3},
	} {
		for n := 1; n <= c.acts+1; n++ {
			for _, cut := range []int{0, 300, 1 << 20} {
				r, d := follower(t, 1<<16, 1, entries(t, 1, 2, 1)...)
				for _, m := range c.ahead {
					receive(t, r, m)
				}
				mustErr(t, "Create", d.Create("zz"), api.OK)
				mustErr(t, "Append", d.Append("zz", make([]byte, max(0, d.Free()-max(c.room, 0)))), api.OK)
				mustErr(t, "Sync", d.Sync("zz"), api.OK)
				m := c.m
				if c.room < 0 {
					// The old one's bytes go: a chunk of more than those has no room.
					m.Data = make([]byte, 1001)
				}
				before := r.Status()
				d.Arm(n)
				out, err := r.Receive(m, 0)
				if n > c.acts {
					mustErr(t, c.what, err, api.OK)
					continue
				}
				if len(out) > 0 || err != api.ErrDown {
					t.Fatalf("%s, at act %d: %s, %d", c.what, n, text(out), err)
				}
				mustRefuse(t, c.what, r, d, api.ErrDown)
				d.Crash(cut)
				x := open(t, d, config(2, 3))
				before.Installing, before.Leader = false, 0
				if s := x.Status(); s != before || has(d, "aSNAP") {
					t.Fatalf("%s, at act %d: %+v, want %+v; %s", c.what, n, s, before, told(d))
				}
			}
		}
	}
}
