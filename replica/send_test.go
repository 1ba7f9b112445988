package replica_test

import (
	"fmt"
	"math"
	"slices"
	"testing"

	"strata/api"
)

// sender is a group of three: the first leads, the third lacks what the first has cut off; the snapshot has several chunks.
func sender(t *testing.T) (*group, []byte) {
	t.Helper()
	g := newGroup(t, 3)
	g.lead(1, 2)
	for i := range 3 {
		g.propose(1, puts(t, fmt.Sprint("row", i), 4, byte('a'+i)), 2)
	}
	flush(t, g.of(1))
	return g, own(t, g)
}

// own is the snapshot of the group's leader.
func own(t *testing.T, g *group) []byte {
	t.Helper()
	x, err := g.of(1).Tree().Image()
	mustErr(t, "Image", err, api.OK)
	b := snapBytes(x, 1)
	if len(b) < 3*api.MaxChunk {
		t.Fatalf("a snapshot of %d bytes", len(b))
	}
	return b
}

// chunkOf is the chunk of a snapshot at a place, for the third.
func chunkOf(b []byte, index, at int) api.Message {
	return api.Message{Kind: api.PChunk, From: 1, To: 3, Index: index, Term: 1, At: at, Total: len(b), Data: b[at:min(at+api.MaxChunk, len(b))]}
}

func gotOf(index, term, at int) api.Message {
	return api.Message{Kind: api.PGot, From: 3, To: 1, Index: index, Term: term, At: at}
}

// chunksIn are the chunks among messages.
func chunksIn(l []api.Message) []api.Message {
	return slices.DeleteFunc(slices.Clone(l), func(m api.Message) bool { return m.Kind != api.PChunk })
}

// beat is the chunks that the leader's next tick sends. What it sends to those that lack nothing is answered, so that it goes on leading.
func (g *group) beat() []api.Message {
	g.t.Helper()
	l := tick(g.t, g.of(1))
	for _, m := range l {
		if m.Raft.Kind == api.MAppend {
			for _, answer := range receive(g.t, g.of(m.To), m) {
				receive(g.t, g.of(1), answer)
			}
		}
	}
	return chunksIn(l)
}

func mustSend(t *testing.T, what string, got []api.Message, want ...api.Message) {
	t.Helper()
	if text(got) != text(want) {
		t.Fatalf("%s: got\n%.2000s\nwant\n%.2000s", what, text(got), text(want))
	}
}

// 18.6: at each beat the chunk at the other one's place goes out; what goes back moves the place, wherever it says.
func TestChunks(t *testing.T) {
	g, b := sender(t)
	r := g.of(1)
	mustSend(t, "a PGot of nothing", receive(t, r, gotOf(4, 1, 0)))
	mustSend(t, "the first beat", g.beat(), chunkOf(b, 4, 0))
	mustSend(t, "the next one", g.beat(), chunkOf(b, 4, 0))
	for _, at := range []int{api.MaxChunk, 2 * api.MaxChunk, 1, 0, len(b) - 1, len(b) - api.MaxChunk, 5, 7777} {
		mustSend(t, "a PGot", receive(t, r, gotOf(4, 1, at)), chunkOf(b, 4, at))
		mustSend(t, "a beat behind it", g.beat(), chunkOf(b, 4, at))
	}
	// Of another snapshot, or behind its end: nothing, and the place stays.
	for _, m := range []api.Message{gotOf(3, 1, 0), gotOf(5, 1, 0), gotOf(4, 2, 0), gotOf(4, 1, len(b)+1), gotOf(4, 1, api.MaxDisk), gotOf(api.MaxIndex, api.MaxTerm, 0)} {
		mustSend(t, messageText(m), receive(t, r, m))
	}
	m := gotOf(4, 1, 0)
	m.From = 2
	mustSend(t, "from one to which nothing is sent", receive(t, r, m))
	// What it says as Total does not count.
	m = gotOf(4, 1, 9999)
	m.Total = 3
	mustSend(t, "another Total", receive(t, r, m), chunkOf(b, 4, 9999))
	mustSend(t, "a beat behind it", g.beat(), chunkOf(b, 4, 9999))
	// All of it is there: it is not being sent any more, and begins anew, if it is needed.
	mustSend(t, "the end", receive(t, r, gotOf(4, 1, len(b))))
	mustSend(t, "behind the end", receive(t, r, gotOf(4, 1, 5)))
	mustSend(t, "a beat behind the end", g.beat(), chunkOf(b, 4, 0))
}

// 18.6: a PGot that may not be.
func TestGotRefuses(t *testing.T) {
	g, _ := sender(t)
	g.beat()
	var l []wrong
	for _, at := range []int{math.MinInt, -1, api.MaxDisk + 1, math.MaxInt} {
		l = append(l, wrong{"a place", gotOf(4, 1, at), api.ErrSnap})
	}
	for _, n := range []int{math.MinInt, -1, 0, 1<<40 + 1, math.MaxInt} {
		l = append(l, wrong{"an index", gotOf(n, 1, 0), api.ErrSnap}, wrong{"a term", gotOf(4, n, 0), api.ErrSnap})
	}
	mustStay(t, g.of(1), g.disks[0].Files, l...)
	// A follower refuses them no less, and takes no other.
	m := gotOf(4, 1, -1)
	m.To = 2
	mustStay(t, g.of(2), g.disks[1].Files, wrong{"a place", m, api.ErrSnap})
	m.At = 0
	mustSend(t, "at a follower", receive(t, g.of(2), m))
}

// 18.6: what is being sent stays as it was, whatever the sender squashes or applies; until its log is cut off behind it.
func TestWhatIsSentStays(t *testing.T) {
	g, b := sender(t)
	r := g.of(1)
	g.propose(1, puts(t, "row9", 4, 'z'), 2)
	flush(t, r)
	b = own(t, g)
	mustSend(t, "the first beat", g.beat(), chunkOf(b, 5, 0))
	if done, err := r.Compact(true, 1<<20); !done || err != api.OK {
		t.Fatalf("Compact: %v, %d", done, err)
	}
	if x, _ := r.Tree().Image(); slices.Equal(snapBytes(x, 1), b) {
		t.Fatal("the squash has changed nothing")
	}
	mustSend(t, "behind a squash", receive(t, r, gotOf(5, 1, api.MaxChunk)), chunkOf(b, 5, api.MaxChunk))
	g.propose(1, put(t, "more", "v"), 2)
	mustSend(t, "behind a command", g.beat(), chunkOf(b, 5, api.MaxChunk))
	flush(t, r)
	if r.Status().First != 7 {
		t.Fatalf("%+v", r.Status())
	}
	// Till the next beat what goes back is still answered.
	mustSend(t, "ahead of the beat", receive(t, r, gotOf(5, 1, 4)), chunkOf(b, 5, 4))
	x := own(t, g)
	mustSend(t, "at the beat", g.beat(), chunkOf(x, 6, 0))
	mustSend(t, "of the old one", receive(t, r, gotOf(5, 1, 4)))
	mustSend(t, "of the new one", receive(t, r, gotOf(6, 1, 4)), chunkOf(x, 6, 4))
}

// 18.6: the snapshot is what was flushed last; an index that the journal was not trimmed to stays below it.
func TestASnapshotAheadOfTheBase(t *testing.T) {
	g, b := sender(t)
	r, d := g.of(1), g.disks[0]
	mustSend(t, "the first beat", g.beat(), chunkOf(b, 4, 0))
	receive(t, r, gotOf(4, 1, 100))
	// Its second flush finds room for the run, and none for the trim.
	g.propose(1, put(t, "a", "v"), 2)
	for range 5 {
		g.propose(1, noop(t), 2)
	}
	_, _, _, err := r.Propose(make([]byte, 50000))
	mustErr(t, "Propose", err, api.OK)
	mustErr(t, "Create", d.Create("zz"), api.OK)
	mustErr(t, "Append", d.Append("zz", make([]byte, d.Free()-20000)), api.OK)
	flush(t, r)
	if s := r.Status(); s.Flushed != 10 || s.First != 5 {
		t.Fatalf("%+v", s)
	}
	mustSend(t, "it goes on", g.beat(), chunkOf(b, 4, 100))
	mustSend(t, "to the end", receive(t, r, gotOf(4, 1, len(b))))
	x := own(t, g)
	mustSend(t, "and anew", g.beat(), chunkOf(x, 10, 0))
}

// 18.3, 18.6: one that does not lead any more sends nothing any more, also once it leads again.
func TestNothingIsSentByAFollower(t *testing.T) {
	g, b := sender(t)
	r := g.of(1)
	mustSend(t, "the first beat", g.beat(), chunkOf(b, 4, 0))
	receive(t, r, gotOf(4, 1, 100))
	receive(t, r, raftMsg(api.Msg{Kind: api.MAppendReply, From: 2, To: 1, Term: 2, Reject: true}))
	if r.Status().Role == api.RLeader {
		t.Fatal("it leads")
	}
	mustSend(t, "at a follower", receive(t, r, gotOf(4, 1, 200)))
	for range 6 {
		tick(t, g.of(2))
	}
	g.lead(1, 2)
	// Its first beat asks the third what that has.
	g.beat()
	mustSend(t, "it begins anew", g.beat(), chunkOf(b, 4, 0))
}

// 18.6: each peer has a place of its own, and all chunks are the snapshot's bytes.
func TestChunksForTwo(t *testing.T) {
	g := newGroup(t, 5)
	g.lead(1, 2, 3)
	for i := range 3 {
		g.propose(1, puts(t, fmt.Sprint("row", i), 4, byte('a'+i)), 2, 3)
	}
	flush(t, g.of(1))
	b := own(t, g)
	r := g.of(1)
	at := map[int]int{4: 0, 5: 0}
	for _, m := range g.beat() {
		want := chunkOf(b, 4, 0)
		want.To = m.To
		mustSend(t, "the first", []api.Message{m}, want)
	}
	for _, to := range []int{5, 4, 4, 4, 5, 5} {
		at[to] += api.MaxChunk
		m := gotOf(4, 1, min(at[to], len(b)-1))
		m.From = to
		want := chunkOf(b, 4, min(at[to], len(b)-1))
		want.To = to
		mustSend(t, "another one", receive(t, r, m), want)
	}
	m := gotOf(4, 1, len(b))
	m.From = 4
	mustSend(t, "the end of one", receive(t, r, m))
	l := g.beat()
	if len(l) != 2 || l[0].To != 4 || l[0].At != 0 || l[1].To != 5 || l[1].At != at[5] {
		t.Errorf("%.500s", text(l))
	}
}
