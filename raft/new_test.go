package raft_test

import (
	"math"
	"testing"

	"strata/api"
	"strata/raft"
)

func entries(from int, terms ...int) []api.LogEntry {
	var l []api.LogEntry
	for i, term := range terms {
		l = append(l, api.LogEntry{Index: from + i, Term: term})
	}
	return l
}

// many is n entries of one term.
func many(from, n, term int) []api.LogEntry {
	l := make([]api.LogEntry, n)
	for i := range l {
		l[i] = api.LogEntry{Index: from + i, Term: term}
	}
	return l
}

func mustNew(t *testing.T, what string, c api.RaftConfig, s api.RaftState, good bool) {
	t.Helper()
	n, err := raft.New(c, s, 0)
	want := api.OK
	if !good {
		want = api.ErrRaft
	}
	if err != want || (n != nil) != good {
		t.Errorf("%s: %v, %d, want %d", what, n != nil, err, want)
	}
}

// 16.2: configurations that may be, and those that may not.
func TestNewLooksAtTheConfiguration(t *testing.T) {
	for _, x := range []struct {
		what string
		f    func(c *api.RaftConfig)
		good bool
	}{
		{"as it is", func(c *api.RaftConfig) {}, true},
		{"zero", func(c *api.RaftConfig) { *c = api.RaftConfig{} }, false},
		{"no peers", func(c *api.RaftConfig) { c.Peers = nil }, false},
		{"no peers and no id", func(c *api.RaftConfig) { c.ID, c.Peers = 0, nil }, false},
		{"an id that is no peer", func(c *api.RaftConfig) { c.ID = 4 }, false},
		{"an id between the peers", func(c *api.RaftConfig) { c.ID, c.Peers = 2, []int{1, 3} }, false},
		{"the last peer", func(c *api.RaftConfig) { c.ID = 3 }, true},
		{"one alone", func(c *api.RaftConfig) { c.ID, c.Peers = 5, []int{5} }, true},
		{"seven", func(c *api.RaftConfig) { c.Peers = []int{1, 2, 3, 4, 5, 6, 7} }, true},
		{"gaps", func(c *api.RaftConfig) { c.Peers = []int{1, 4, 7} }, true},
		{"peers that fall", func(c *api.RaftConfig) { c.Peers = []int{1, 3, 2} }, false},
		{"a peer twice", func(c *api.RaftConfig) { c.Peers = []int{1, 2, 2} }, false},
		{"peer 0", func(c *api.RaftConfig) { c.Peers = []int{0, 1, 2} }, false},
		{"itself peer 0", func(c *api.RaftConfig) { c.ID, c.Peers = 0, []int{0, 1, 2} }, false},
		{"a peer below 0", func(c *api.RaftConfig) { c.Peers = []int{math.MinInt, 1, 2} }, false},
		{"peer 8", func(c *api.RaftConfig) { c.Peers = []int{1, 2, 8} }, false},
		{"Beat 0", func(c *api.RaftConfig) { c.Beat = 0 }, false},
		{"Beat below 0", func(c *api.RaftConfig) { c.Beat = math.MinInt }, false},
		{"Beat 1", func(c *api.RaftConfig) { c.Beat = 1 }, true},
		{"Beat just below Least", func(c *api.RaftConfig) { c.Beat = 9 }, true},
		{"Beat is Least", func(c *api.RaftConfig) { c.Beat = 10 }, false},
		{"Most is Least", func(c *api.RaftConfig) { c.Most = 10 }, true},
		{"Most below Least", func(c *api.RaftConfig) { c.Most = 9 }, false},
		{"Most at its bound", func(c *api.RaftConfig) { c.Most = 1000 }, true},
		{"Most above it", func(c *api.RaftConfig) { c.Most = 1001 }, false},
		{"all at the bound", func(c *api.RaftConfig) { c.Beat, c.Least, c.Most = 999, 1000, 1000 }, true},
		{"a span that wraps", func(c *api.RaftConfig) { c.Least, c.Most = math.MinInt, math.MaxInt }, false},
		{"Batch 0", func(c *api.RaftConfig) { c.Batch = 0 }, false},
		{"Batch 1", func(c *api.RaftConfig) { c.Batch = 1 }, true},
		{"Batch 16", func(c *api.RaftConfig) { c.Batch = 16 }, true},
		{"Batch 17", func(c *api.RaftConfig) { c.Batch = 17 }, false},
	} {
		c := three()
		x.f(&c)
		mustNew(t, x.what, c, api.RaftState{}, x.good)
	}
}

// 16.2: states that may be, and those that may not.
func TestNewLooksAtTheState(t *testing.T) {
	hard := func(term, vote int) api.RaftState { return api.RaftState{Hard: api.Hard{Term: term, Vote: vote}} }
	with := func(f func(s *api.RaftState)) api.RaftState {
		s := parseState("3.2 s4.1 c5 [5.1 6.3]")
		f(&s)
		return s
	}
	for _, x := range []struct {
		what string
		s    api.RaftState
		good bool
	}{
		{"new", api.RaftState{}, true},
		{"as it is", with(func(s *api.RaftState) {}), true},
		{"Term below 0", hard(-1, 0), false},
		{"Term at its bound", hard(api.MaxTerm, 3), true},
		{"Term above it", hard(api.MaxTerm+1, 0), false},
		{"a vote for itself", hard(1, 1), true},
		{"a vote for nobody", hard(1, 4), false},
		{"a vote below 0", hard(1, -1), false},
		{"a vote in no term", hard(0, 1), false},
		{"SnapIndex below 0", with(func(s *api.RaftState) { s.SnapIndex = -1 }), false},
		{"SnapIndex below 0 alone", api.RaftState{Hard: api.Hard{Term: 1}, SnapIndex: -1, SnapTerm: 1, Commit: -1}, false},
		{"SnapIndex at its bound", api.RaftState{Hard: api.Hard{Term: 1}, SnapIndex: api.MaxIndex, SnapTerm: 1, Commit: api.MaxIndex}, true},
		{"SnapIndex above it", api.RaftState{Hard: api.Hard{Term: 1}, SnapIndex: api.MaxIndex + 1, SnapTerm: 1, Commit: api.MaxIndex + 1}, false},
		{"no SnapTerm", api.RaftState{Hard: api.Hard{Term: 1}, SnapIndex: 1, Commit: 1}, false},
		{"a SnapTerm of no index", api.RaftState{Hard: api.Hard{Term: 1}, SnapTerm: 1}, false},
		{"SnapTerm below 0", api.RaftState{Hard: api.Hard{Term: 1}, SnapIndex: 1, SnapTerm: -1, Commit: 1}, false},
		{"SnapTerm is Term", api.RaftState{Hard: api.Hard{Term: 1}, SnapIndex: 1, SnapTerm: 1, Commit: 1}, true},
		{"SnapTerm above Term", api.RaftState{Hard: api.Hard{Term: 1}, SnapIndex: 1, SnapTerm: 2, Commit: 1}, false},
		{"a log that begins too late", with(func(s *api.RaftState) { s.Log = entries(6, 1) }), false},
		{"a log that begins too early", with(func(s *api.RaftState) { s.Log = entries(4, 1, 1) }), false},
		{"a gap", with(func(s *api.RaftState) { s.Log[1].Index = 7 }), false},
		{"an index twice", with(func(s *api.RaftState) { s.Log[1].Index = 5 }), false},
		{"terms that fall", with(func(s *api.RaftState) { s.Log = entries(5, 3, 2) }), false},
		{"terms that stay", with(func(s *api.RaftState) { s.Log = entries(5, 3, 3) }), true},
		{"a term below SnapTerm", with(func(s *api.RaftState) { s.SnapTerm = 2 }), false},
		{"a term below 1", api.RaftState{Hard: api.Hard{Term: 1}, Log: entries(1, 0)}, false},
		{"a term above Term", with(func(s *api.RaftState) { s.Log[1].Term = 4 }), false},
		{"entries of no term", api.RaftState{Log: entries(1, 1)}, false},
		{"up to MaxIndex", api.RaftState{Hard: api.Hard{Term: 1}, SnapIndex: api.MaxIndex - 1, SnapTerm: 1, Commit: api.MaxIndex, Log: entries(api.MaxIndex, 1)}, true},
		{"above MaxIndex", api.RaftState{Hard: api.Hard{Term: 1}, SnapIndex: api.MaxIndex - 1, SnapTerm: 1, Commit: api.MaxIndex, Log: entries(api.MaxIndex, 1, 1)}, false},
		{"MaxLog entries", api.RaftState{Hard: api.Hard{Term: 1}, Log: many(1, api.MaxLog, 1)}, true},
		{"one more", api.RaftState{Hard: api.Hard{Term: 1}, Log: many(1, api.MaxLog+1, 1)}, false},
		{"Commit is SnapIndex", with(func(s *api.RaftState) { s.Commit = 4 }), true},
		{"Commit below it", with(func(s *api.RaftState) { s.Commit = 3 }), false},
		{"Commit is last", with(func(s *api.RaftState) { s.Commit = 6 }), true},
		{"Commit above it", with(func(s *api.RaftState) { s.Commit = 7 }), false},
		{"Commit above no log", api.RaftState{Commit: 1}, false},
		{"Commit below 0", api.RaftState{Commit: -1}, false},
	} {
		mustNew(t, x.what, three(), x.s, x.good)
	}
}

// 16.1, 16.2: a new node is a follower with its state, without a leader.
func TestNewNode(t *testing.T) {
	b := from(t, "3.2 s4.1 c5 [5.1=a 6.3=b]")
	b.is("3.2 s4.1 c5 [5.1=a 6.3=b]")
	b.plays([2]string{"tick", "F0 3.2 c5 n7"})
	if p := b.n.Progress(); len(p) != 0 {
		t.Errorf("%v", p)
	}
}

// 16.1: a draw makes a timeout, from Least to Most, of a negative draw too; New's as well as an event's.
func TestDraws(t *testing.T) {
	for _, x := range []struct{ draw, want int }{
		{0, 10}, {1, 11}, {10, 20}, {11, 10}, {12, 11}, {21, 20}, {22, 10},
		{-1, 20}, {-2, 19}, {-10, 11}, {-11, 10}, {-12, 20},
		{math.MaxInt, 10 + math.MaxInt%11}, {math.MinInt, 10 + 11 + math.MinInt%11},
	} {
		b := open(t, three(), api.RaftState{}, x.draw)
		if got := b.wait(); got != x.want {
			t.Errorf("New, draw %d: %d ticks, want %d", x.draw, got, x.want)
		}
		b = from(t, "0.0")
		e := parseEvent(1, "2 app t1")
		e.Draw = x.draw
		b.take(e)
		if got := b.wait(); got != x.want {
			t.Errorf("draw %d: %d ticks, want %d", x.draw, got, x.want)
		}
	}
	c := three()
	c.Most = c.Least
	for _, draw := range []int{0, 1, -1, math.MinInt, math.MaxInt} {
		if got := open(t, c, api.RaftState{}, draw).wait(); got != 10 {
			t.Errorf("draw %d of one: %d ticks", draw, got)
		}
	}
}

// 16.1: a majority is more than half of the peers, of those that grant and of those that have an entry.
func TestMajorities(t *testing.T) {
	for peers, want := range []int{0, 1, 2, 2, 3, 3, 4, 4} {
		if peers == 0 {
			continue
		}
		b := open(t, among(peers), api.RaftState{}, 0)
		r := b.do("tick", "tick", "tick", "tick", "tick", "tick", "tick", "tick", "tick", "tick")
		for _, kind := range []int{api.MPreReply, api.MVoteReply, api.MAppendReply} {
			for p := 2; p <= want; p++ {
				if role := []int{0, 0, api.RPre, 0, api.RCandidate, 0, api.RLeader}[kind]; r.Role != role || r.Commit != 0 {
					t.Fatalf("%d peers, %d granted: %s", peers, p-1, readyText(r))
				}
				m := api.Msg{Kind: kind, From: p, To: 1, Term: 1}
				if kind == api.MAppendReply {
					m.Index = 1
				}
				r = b.take(api.Event{Kind: api.EMsg, Msg: m})
			}
		}
		if r.Role != api.RLeader || r.Commit != 1 {
			t.Errorf("%d peers: %s", peers, readyText(r))
		}
	}
}
