package raft_test

import (
	"bytes"
	"fmt"
	"math"
	"math/rand"
	"slices"
	"testing"

	"strata/api"
	"strata/raft"
)

func drawConfig(r *rand.Rand) api.RaftConfig {
	peers := r.Perm(api.MaxNodes)[:1+r.Intn(api.MaxNodes)]
	if r.Intn(3) > 0 {
		peers = r.Perm(api.MaxNodes)[:3]
	}
	c := api.RaftConfig{Least: 2 + r.Intn(5), Batch: 1 + r.Intn(4)}
	for _, p := range peers {
		c.Peers = append(c.Peers, p+1)
	}
	c.ID = c.Peers[0]
	slices.Sort(c.Peers)
	c.Most, c.Beat = c.Least+r.Intn(5), 1+r.Intn(c.Least-1)
	return c
}

// drawState is a state that may be; some stand near the last term and the last index.
func drawState(r *rand.Rand, c api.RaftConfig) api.RaftState {
	var s api.RaftState
	if r.Intn(4) == 0 {
		return s
	}
	s.Hard.Term = 1 + r.Intn(4)
	if r.Intn(6) == 0 {
		s.Hard.Term = api.MaxTerm - r.Intn(3)
	}
	if r.Intn(2) == 0 {
		s.Hard.Vote = c.Peers[r.Intn(len(c.Peers))]
	}
	if r.Intn(2) == 0 {
		s.SnapIndex, s.SnapTerm = 1+r.Intn(5), 1+r.Intn(min(3, s.Hard.Term))
		if r.Intn(3) == 0 {
			s.SnapIndex = api.MaxIndex - r.Intn(8)
		}
	}
	term := max(1, s.SnapTerm)
	for i := range r.Intn(6) {
		term = min(s.Hard.Term, term+r.Intn(4)/3)
		if index := s.SnapIndex + 1 + i; index <= api.MaxIndex {
			s.Log = append(s.Log, api.LogEntry{Index: index, Term: term, Data: noise(r)})
		}
	}
	s.Commit = s.SnapIndex + r.Intn(len(s.Log)+1)
	return s
}

func noise(r *rand.Rand) []byte {
	b := make([]byte, r.Intn(4))
	r.Read(b)
	return b
}

func drawDraw(r *rand.Rand) int {
	return []int{r.Intn(20), -r.Intn(20), math.MinInt, math.MaxInt}[r.Intn(20)/9]
}

// near is one of some numbers, or one beside it.
func near(r *rand.Rand, l ...int) int {
	return l[r.Intn(len(l))] + []int{0, 0, 0, 0, 1, -1}[r.Intn(6)]
}

// drawEvent is an event that may well come to a node that stands where the model does; some may not be.
func drawEvent(r *rand.Rand, m *model) api.Event {
	peer := func() int {
		if r.Intn(12) == 0 {
			return []int{m.c.ID, 0, -1, 8}[r.Intn(4)]
		}
		return 1 + r.Intn(api.MaxNodes)
	}
	e := api.Event{Kind: api.EMsg, Draw: drawDraw(r)}
	switch n := r.Intn(100); {
	case n < 30:
		e.Kind = api.ETick
	case n < 40:
		e.Kind = api.EPropose
		for range []int{1, 1, 1, 2, 3, 0, 16, 17}[r.Intn(8)] {
			e.Data = append(e.Data, noise(r))
		}
	case n < 43:
		e.Kind, e.Index = api.ECompact, near(r, m.snap, m.commit, m.commit, (m.snap+m.commit)/2)
	case n < 46:
		e.Kind, e.Index, e.Term = api.EInstalled, near(r, m.commit, m.last(), m.last()+3, api.MaxIndex, 0), near(r, m.term, m.term, 1)
		if r.Intn(2) == 0 {
			e.Term = m.termOf(e.Index)
		}
	case n < 49:
		e.Kind, e.Peer = api.EHandOver, peer()
	case n < 51:
		e.Kind, e.Peer = api.EUnreachable, peer()
	case n < 52:
		e.Kind = []int{0, -1, 8, math.MaxInt}[r.Intn(4)]
	default:
		e.Msg = drawMessage(r, m)
	}
	return e
}

func drawMessage(r *rand.Rand, m *model) api.Msg {
	x := api.Msg{Kind: 1 + r.Intn(8), To: m.c.ID, Term: m.term}
	x.From = m.c.Peers[r.Intn(len(m.c.Peers))]
	if r.Intn(4) > 0 {
		// What a node in this role waits for.
		x.Kind = []int{0, []int{api.MAppend, api.MSnapshot, api.MHandOver}[r.Intn(12)/5], api.MPreReply, api.MVoteReply, api.MAppendReply}[m.role]
	}
	if m.role == api.RFollower && m.leader != 0 && r.Intn(3) > 0 {
		x.From = m.leader
	}
	switch n := r.Intn(16); {
	case n == 0:
		x.Term++
	case n == 1:
		x.Term--
	case n == 2:
		x.Term += r.Intn(4)
	case x.Kind == api.MPreVote, x.Kind == api.MPreReply:
		x.Term++
	}
	x.Reject = r.Intn(4) == 0
	x.Index = near(r, m.commit, m.last(), m.last(), m.snap, 0)
	if m.role == api.RLeader && x.Kind == api.MAppendReply {
		x.Index = near(r, m.last(), m.match[x.From], m.next[x.From]-1, m.next[x.From]-1)
		x.Hint = max(0, x.Index-1-r.Intn(3))
	} else if x.Kind != api.MAppendReply {
		x.LogTerm = m.termOf(x.Index)
		if r.Intn(8) == 0 || x.LogTerm == 0 && x.Index > 0 {
			x.LogTerm = near(r, m.term, x.Term, 1)
		}
	}
	if x.Kind == api.MAppend {
		x.Entries = drawEntries(r, m, x)
		x.Commit = max(0, near(r, m.commit, m.last(), x.Index, x.Index+len(x.Entries)))
	}
	if x.Kind == api.MVote {
		x.Hint = r.Intn(2)
	}
	if r.Intn(30) == 0 {
		spoil(r, &x)
	}
	return x
}

// drawEntries are what the log has behind a message's Index, and perhaps others from some place on.
func drawEntries(r *rand.Rand, m *model, x api.Msg) []api.LogEntry {
	var l []api.LogEntry
	term, other := max(1, x.LogTerm), r.Intn(3) == 0
	for i := range r.Intn(6) {
		index := x.Index + 1 + i
		if had, is := m.entries[index]; is && !other && r.Intn(6) > 0 {
			l = append(l, had)
			term = had.Term
			continue
		}
		other = true
		term = min(max(term, x.Term), term+r.Intn(3))
		l = append(l, api.LogEntry{Index: index, Term: term, Data: noise(r)})
	}
	return l
}

func spoil(r *rand.Rand, x *api.Msg) {
	wild := []int{math.MinInt, -1, 0, 1, 7, 8, 9, api.MaxIndex, api.MaxIndex + 1, math.MaxInt}[r.Intn(10)]
	*[]*int{&x.Kind, &x.From, &x.To, &x.Term, &x.Index, &x.LogTerm, &x.Commit, &x.Hint}[r.Intn(8)] = wild
	if n := len(x.Entries); n > 0 && r.Intn(3) == 0 {
		x.Entries = slices.Clone(x.Entries)
		e := &x.Entries[r.Intn(n)]
		*[]*int{&e.Index, &e.Term}[r.Intn(2)] = wild
	}
}

// note counts what a story has come to, so that it is seen that all of it is told.
func note(counts map[string]int, was int, e api.Event, r api.Ready, err api.Errno) {
	if err != api.OK {
		counts[fmt.Sprintf("event %d, error %d", min(max(0, e.Kind), 8), err)]++
		return
	}
	if was != r.Role {
		counts[fmt.Sprintf("role %d to %d by event %d", was, r.Role, e.Kind)]++
	}
	for _, m := range r.Msgs {
		counts[fmt.Sprintf("message %d, %v", m.Kind, m.Reject)]++
		if e.Kind == api.EMsg {
			counts[fmt.Sprintf("message %d by %d, %v", m.Kind, e.Msg.Kind, e.Msg.Reject)]++
		}
	}
	for i, is := range []bool{r.Write, len(r.Entries) > 1, len(r.Snaps) > 0, r.First > 0, r.Hard.Term == api.MaxTerm, r.From > api.MaxIndex} {
		if is {
			counts[fmt.Sprintf("ready %d", i)]++
		}
	}
}

// 16.3 to 16.14, 16.20: over drawn events a node tells just what the chapter's words do; what is handed in is neither changed nor kept, and what is told is its caller's own.
func TestStories(t *testing.T) {
	t.Parallel()
	counts := map[string]int{}
	for seed := range 1000 {
		r := rand.New(rand.NewSource(int64(seed)))
		c := drawConfig(r)
		s := drawState(r, c)
		draw := drawDraw(r)
		m := newModel(c, deep(s), draw)
		handedConfig, handedState := c, roomyState(s)
		handedConfig.Peers = roomy(c.Peers)
		n, err := raft.New(handedConfig, handedState, draw)
		if err != api.OK {
			t.Fatalf("seed %d: New: %d", seed, err)
		}
		mustBeWhole(t, handedConfig.Peers, c.Peers)
		mustBeWholeState(t, handedState, s)
		scribble(handedConfig.Peers)
		scribbleEntries(handedState.Log)
		for step := range 300 {
			e := drawEvent(r, m)
			was := m.role
			want, wantErr := m.step(deep(e))
			handed := roomyEvent(e)
			got, err := n.Step(handed)
			note(counts, was, e, got, err)
			if err != wantErr || !same(got, want) {
				t.Fatalf("seed %d, step %d, %+v of %+v:\n got %d %+v\nwant %d %+v", seed, step, e, c, err, got, wantErr, want)
			}
			mustBeWholeEvent(t, handed, e)
			mustShareNothing(t, append(listsOfEvent(handed), listsOfReady(got)...))
			scribbleEvent(handed)
			scribbleReady(got)
			state, progress := n.State(), n.Progress()
			if !same(state, m.state()) || !same(progress, m.progress()) {
				t.Fatalf("seed %d, step %d, %+v:\n got %+v %v\nwant %+v %v", seed, step, e, state, progress, m.state(), m.progress())
			}
			mustShareNothing(t, append(listsOfEntries(state.Log), region(progress)))
			scribbleEntries(state.Log)
			clear(progress[:cap(progress)])
		}
	}
	mustHaveCome(t, counts)
}

// mustHaveCome: the stories have come to all that a node can do.
func mustHaveCome(t *testing.T, counts map[string]int) {
	t.Helper()
	want := []string{
		"event 0, error 161", "event 8, error 161", "event 2, error 161", "event 3, error 1", "event 3, error 162", "event 3, error 164", "event 3, error 166",
		"event 4, error 163", "event 5, error 161", "event 5, error 163", "event 6, error 161", "event 6, error 162", "event 7, error 161",
		"role 1 to 2 by event 1", "role 1 to 4 by event 1", "role 1 to 3 by event 2", "role 2 to 3 by event 2", "role 2 to 1 by event 2", "role 3 to 4 by event 2", "role 3 to 1 by event 2", "role 3 to 2 by event 1", "role 4 to 1 by event 1", "role 4 to 1 by event 2",
		"message 1, false", "message 2, false", "message 2, true", "message 3, false", "message 4, false", "message 4, true", "message 5, false", "message 6, false", "message 6, true", "message 7, false", "message 8, false",
		"message 5 by 6, true", "message 5 by 6, false", "message 7 by 6, true", "message 8 by 6, false", "message 8 by 6, true",
		"ready 0", "ready 1", "ready 2", "ready 3", "ready 4", "ready 5",
	}
	for _, w := range want {
		if counts[w] < 5 {
			t.Errorf("%s: %d times", w, counts[w])
		}
	}
}

// 16.20: what a node does hangs on its configuration, its state and the events alone.
func TestTwiceTheSame(t *testing.T) {
	for seed := range 100 {
		tell := func() []byte {
			var out bytes.Buffer
			r := rand.New(rand.NewSource(int64(seed)))
			c := drawConfig(r)
			s := drawState(r, c)
			m := newModel(c, s, seed)
			n, _ := raft.New(c, s, seed)
			for range 200 {
				e := drawEvent(r, m)
				m.step(e)
				ready, err := n.Step(e)
				fmt.Fprintln(&out, ready, err, n.State(), n.Progress())
			}
			return out.Bytes()
		}
		if !bytes.Equal(tell(), tell()) {
			t.Fatalf("seed %d", seed)
		}
	}
}
