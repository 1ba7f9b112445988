package raft_test

import (
	"testing"

	"strata/api"
)

// 16.3: what is to be written, and from where on.
func TestReadyTellsWhatIsWritten(t *testing.T) {
	for _, x := range []struct{ what, state, event, want string }{
		{"nothing changes", "1.0 c1 [1.1 2.1]", "tick", "F0 1.0 c1 n3"},
		{"the term alone", "1.0 c1 [1.1 2.1]", "2 votereply t5", "F0 5.0 c1 w3[]"},
		{"the vote alone", "1.0 c1 [1.1 2.1]", "2 vote t1 2.1", "F0 1.2 c1 w3[] > 2:votereply t1"},
		{"a vote that was given already", "1.2 c1 [1.1 2.1]", "2 vote t1 2.1", "F0 1.2 c1 n3 > 2:votereply t1"},
		{"a new term takes the vote", "1.2 c1 [1.1 2.1]", "3 votereply t2", "F0 2.0 c1 w3[]"},
		{"entries behind the log", "1.0 c1 [1.1 2.1]", "2 app t1 2.1 [3.1=x]", "F2 1.0 c1 w3[3.1=x] > 2:appreply t1 3.0"},
		{"entries that it has", "1.0 c1 [1.1 2.1 3.1]", "2 app t1 1.1 [2.1 3.1]", "F2 1.0 c1 n4 > 2:appreply t1 3.0"},
		{"entries of which it has some", "1.0 c1 [1.1 2.1]", "2 app t1 1.1 [2.1 3.1=x]", "F2 1.0 c1 w3[3.1=x] > 2:appreply t1 3.0"},
		{"entries in the place of others", "2.0 c1 [1.1 2.1 3.1 4.1]", "2 app t2 1.1 [2.1 3.2=x]", "F2 2.0 c1 w3[3.2=x] > 2:appreply t2 3.0"},
		{"entries and the term", "1.0 c1 [1.1 2.1 3.1]", "2 app t2 1.1 [2.2=x]", "F2 2.0 c1 w2[2.2=x] > 2:appreply t2 2.0"},
		{"only the commit", "1.0 c1 [1.1 2.1 3.1]", "2 app t1 3.1 c2", "F2 1.0 c2 n4 > 2:appreply t1 3.0"},
		{"a log that is cut off", "1.0 c2 [1.1 2.1 3.1]", "compact 2", "F0 1.0 c2 n4"},
		{"a snapshot above the log", "1.0 c1 [1.1 2.1 3.1]", "installed 9.1", "F0 1.0 c9 w10[]"},
		{"a snapshot within the log", "1.0 c1 [1.1 2.1 3.1=x]", "installed 2.1", "F0 1.0 c2 w3[3.1=x]"},
		{"a snapshot at the log's end", "1.0 c1 [1.1 2.1 3.1=x]", "installed 3.1", "F0 1.0 c3 w4[]"},
		{"a snapshot on no log", "1.0", "installed 3.1", "F0 1.0 c3 w4[]"},
	} {
		if got := readyText(from(t, x.state).do(x.event)); got != x.want {
			t.Errorf("%s:\n got %s\nwant %s", x.what, got, x.want)
		}
	}
}

// 16.3: snapshots go to peers in their order; First and Last stand only where something was proposed.
func TestReadyTellsWhoNeedsASnapshot(t *testing.T) {
	b := leader(t, 5)
	b.do("propose a b", "4 appreply t1 3.0", "3 appreply t1 3.0", "compact 3")
	b.plays([][2]string{
		{"tick", "L1 1.1 c3 n4"},
		{"tick", "L1 1.1 c3 n4 s2,5 > 2:snap t1 3.1 c3 > 3:app t1 3.1 c3 > 4:app t1 3.1 c3 > 5:snap t1 3.1 c3"},
		{"propose c", "L1 1.1 c3 w4[4.1=c] p4-4 s2,5 > 2:snap t1 3.1 c3 > 3:app t1 3.1 c3 [4.1=c] > 4:app t1 3.1 c3 [4.1=c] > 5:snap t1 3.1 c3"},
		{"5 appreply t1 3.0", "L1 1.1 c3 n5 > 5:app t1 3.1 c3 [4.1=c]"},
	}...)
}

// 16.4, to follow: a higher term takes the vote, the same one leaves it; elapsed is 0, the timeout the event's.
func TestToFollow(t *testing.T) {
	b := from(t, "3.2")
	b.do("tick", "tick", "tick", "tick", "tick")
	b.plays([2]string{"3 app t3 d4", "F3 3.2 c0 n1 > 3:appreply t3"})
	b.plays([2]string{"tick", "F3 3.2 c0 n1"})
	if got := b.wait(); got != 13 {
		t.Errorf("%d ticks", got)
	}
	b = from(t, "3.2")
	b.do("tick", "tick", "tick", "tick", "tick")
	b.plays([2]string{"3 app t4 d-1", "F3 4.0 c0 w1[] > 3:appreply t4"})
	if got := b.wait(); got != 20 {
		t.Errorf("%d ticks", got)
	}
	b = from(t, "3.2")
	b.do("3 app t3")
	b.plays([2]string{"2 hand t5 d2", "F0 5.0 c0 w1[]"})
	if got := b.wait(); got != 12 {
		t.Errorf("%d ticks", got)
	}
}

// 16.4, to begin: the role is pre, without a leader and without a new term.
func TestToBegin(t *testing.T) {
	b := from(t, "3.2 c1 [1.1 2.3]")
	b.do("2 app t3 2.3")
	for range 9 {
		b.plays([2]string{"tick 7", "F2 3.2 c1 n3"})
	}
	b.plays([2]string{"tick 7", "P0 3.2 c1 n3 > 2:pre t4 2.3 > 3:pre t4 2.3"})
	for range 16 {
		b.plays([2]string{"tick", "P0 3.2 c1 n3"})
	}
	b.plays([][2]string{
		{"tick 0", "P0 3.2 c1 n3 > 2:pre t4 2.3 > 3:pre t4 2.3"},
		{"2 prereply t4", "C0 4.1 c1 w3[] > 2:vote t4 2.3 > 3:vote t4 2.3"},
	}...)
	for range 9 {
		b.plays([2]string{"tick", "C0 4.1 c1 n3"})
	}
	b.plays([][2]string{
		{"tick", "P0 4.1 c1 n3 > 2:pre t5 2.3 > 3:pre t5 2.3"},
		{"2 votereply t4", "P0 4.1 c1 n3"},
		{"2 prereply t5", "C0 5.1 c1 w3[] > 2:vote t5 2.3 > 3:vote t5 2.3"},
	}...)
}

// 16.4, to begin anew: who granted in an earlier round counts no more.
func TestToBeginForgetsWhoGranted(t *testing.T) {
	b := open(t, among(5), api.RaftState{}, 0)
	b.wait()
	b.plays([2]string{"2 prereply t1", "P0 0.0 c0 n1"})
	b.wait()
	b.plays([][2]string{
		{"3 prereply t1", "P0 0.0 c0 n1"},
		{"3 prereply t1", "P0 0.0 c0 n1"},
		{"2 prereply t1", "C0 1.1 c0 w1[] > 2:vote t1 > 3:vote t1 > 4:vote t1 > 5:vote t1"},
		{"2 votereply t1", "C0 1.1 c0 n1"},
	}...)
	b.wait()
	b.do("4 prereply t2")
	b.plays([][2]string{
		{"5 prereply t2", "C0 2.1 c0 w1[] > 2:vote t2 > 3:vote t2 > 4:vote t2 > 5:vote t2"},
		{"4 votereply t2", "C0 2.1 c0 n1"},
		{"2 votereply t1", "C0 2.1 c0 n1"},
		{"5 votereply t2", "L1 2.1 c0 w1[1.2] > 2:app t2 [1.2] > 3:app t2 [1.2] > 4:app t2 [1.2] > 5:app t2 [1.2]"},
	}...)
}

// atAnEnd are states in which a node has no term, index or place left.
func atAnEnd() map[string]api.RaftState {
	return map[string]api.RaftState{
		"the last term":  {Hard: api.Hard{Term: api.MaxTerm}},
		"the last index": {Hard: api.Hard{Term: 2}, SnapIndex: api.MaxIndex, SnapTerm: 1, Commit: api.MaxIndex},
		"a full log":     {Hard: api.Hard{Term: 2}, Log: many(1, api.MaxLog, 1)},
	}
}

// follower goes on from a state, and has peer 2 as its leader.
func follower(t *testing.T, s api.RaftState) *bench {
	t.Helper()
	b := open(t, three(), s, 0)
	last := s.SnapIndex + len(s.Log)
	r := b.take(api.Event{Kind: api.EMsg, Msg: api.Msg{Kind: api.MAppend, From: 2, To: 1, Term: s.Hard.Term, Index: last, LogTerm: min(1, last)}})
	if r.Leader != 2 {
		t.Fatal(readyText(r))
	}
	return b
}

// 16.4, to begin: at an end a node only waits anew; its role and its leader stay.
func TestNothingIsBegunAtAnEnd(t *testing.T) {
	for what, s := range atAnEnd() {
		b := follower(t, s)
		for i := range 60 {
			if r := b.do("tick 3"); len(r.Msgs) > 0 || r.Role != api.RFollower || r.Leader != 2 || r.Write {
				t.Fatalf("%s, tick %d: %s", what, i, readyText(r))
			}
		}
		// A hand-over finds the same end.
		r := b.take(api.Event{Kind: api.EMsg, Msg: api.Msg{Kind: api.MHandOver, From: 2, To: 1, Term: s.Hard.Term}})
		if r.Role != api.RFollower || r.Leader != 2 || len(r.Msgs) > 0 || r.Write {
			t.Errorf("%s: %s", what, readyText(r))
		}
	}
}

// 16.4, to begin: at an end elapsed is 0 again, and the timeout is by the draw: so it has a leader again, for Least ticks, ever anew.
func TestAtAnEndANodeWaitsAnew(t *testing.T) {
	for what, s := range atAnEnd() {
		if s.Hard.Term == api.MaxTerm {
			continue // nobody can ask for a later term
		}
		// The first timeout is 10, the others are 13.
		for _, x := range []struct {
			ticks int
			has   bool
		}{{0, true}, {9, true}, {10, true}, {19, true}, {20, false}, {22, false}, {23, true}, {32, true}, {33, false}, {35, false}, {36, true}} {
			b := follower(t, s)
			for range x.ticks {
				b.do("tick 3")
			}
			r := b.take(api.Event{Kind: api.EMsg, Msg: api.Msg{Kind: api.MVote, From: 3, To: 1, Term: 9, Index: api.MaxIndex, LogTerm: 9}})
			if has := len(r.Msgs) == 0; has != x.has {
				t.Errorf("%s, behind %d ticks it has a leader: %v", what, x.ticks, has)
			}
		}
	}
}

// 16.4, to begin: at an end a node in the role pre stays that.
func TestPreAtAnEnd(t *testing.T) {
	b := from(t, "1.0 [1.1]")
	b.wait()
	b.take(api.Event{Kind: api.EInstalled, Index: api.MaxIndex, Term: 1})
	for range 30 {
		if r := b.do("tick"); r.Role != api.RPre || r.Leader != 0 || len(r.Msgs) > 0 {
			t.Fatal(readyText(r))
		}
	}
	if r := b.do("3 prereply t2"); r.Role != api.RCandidate || len(r.Msgs) != 2 || r.Msgs[0].Index != api.MaxIndex {
		t.Errorf("%s", readyText(r))
	}
}

// 16.4: one below each of the ends a node still begins, and leads.
func TestSomethingIsBegunNearAnEnd(t *testing.T) {
	for what, s := range map[string]api.RaftState{
		"the last term but one":  {Hard: api.Hard{Term: api.MaxTerm - 1}},
		"the last index but one": {Hard: api.Hard{Term: 2}, SnapIndex: api.MaxIndex - 1, SnapTerm: 1, Commit: api.MaxIndex - 1},
		"room for one entry":     {Hard: api.Hard{Term: 2}, Log: many(1, api.MaxLog-1, 1)},
	} {
		b := open(t, three(), s, 0)
		r := b.elect()
		last := s.SnapIndex + len(s.Log) + 1
		if r.Role != api.RLeader || r.Hard.Term != s.Hard.Term+1 || r.From != last || len(r.Entries) != 1 {
			t.Errorf("%s: %s", what, readyText(r))
		}
	}
}

// 16.4, to lead: where the last index was installed in between, no entry joins.
func TestLeadAtTheLastIndex(t *testing.T) {
	b := from(t, "1.0 [1.1]")
	b.wait()
	b.do("2 prereply t2")
	r := b.take(api.Event{Kind: api.EInstalled, Index: api.MaxIndex, Term: 1})
	if r.Role != api.RCandidate || r.Commit != api.MaxIndex {
		t.Fatalf("%s", readyText(r))
	}
	r = b.do("2 votereply t2")
	if r.Role != api.RLeader || r.Write || r.From != api.MaxIndex+1 || len(r.Msgs) != 2 || r.Msgs[1].Index != api.MaxIndex || r.Msgs[1].LogTerm != 1 || len(r.Msgs[1].Entries) != 0 {
		t.Errorf("%s", readyText(r))
	}
	b.refuses(parseEvent(1, "propose x"), api.ErrLastIndex)
	if p := b.n.Progress(); !same(p, [][3]int{{2, 0, api.MaxIndex + 1}, {3, 0, api.MaxIndex + 1}}) {
		t.Errorf("%v", p)
	}
}

// 16.4, to lead: all that an earlier reign left is gone.
func TestToLeadAnew(t *testing.T) {
	b := leader(t, 3)
	b.do("propose a b", "2 appreply t1 3.0", "3 appreply t1 1.0", "hand 3")
	b.plays([2]string{"2 votereply t4", "F0 4.0 c3 w4[]"})
	if r := b.elect(); readyText(r) != "L1 5.1 c3 w4[4.5] > 2:app t5 3.1 c3 [4.5] > 3:app t5 3.1 c3 [4.5]" {
		t.Fatal(readyText(r))
	}
	if p := b.n.Progress(); !same(p, [][3]int{{2, 0, 4}, {3, 0, 4}}) {
		t.Errorf("%v", p)
	}
	// Nobody is heard yet, there is no heir, and elapsed is 0.
	b.plays([2]string{"propose c", "L1 5.1 c3 w5[5.5=c] p5-5 > 2:app t5 3.1 c3 [4.5 5.5=c] > 3:app t5 3.1 c3 [4.5 5.5=c]"})
	for range 19 {
		if r := b.do("tick"); r.Role != api.RLeader {
			t.Fatal(readyText(r))
		}
	}
	b.plays([2]string{"tick", "F0 5.1 c3 n6"})
}

// 16.4, to count: an entry of an earlier term is committed by one of this term alone.
func TestToCount(t *testing.T) {
	b := open(t, among(5), parseState("2.0 c1 [1.1 2.1 3.2]"), 0)
	b.elect()
	b.plays([][2]string{
		{"2 appreply t3 3.0", "L1 3.1 c1 n5 > 2:app t3 3.2 c1 [4.3]"},
		{"3 appreply t3 3.0", "L1 3.1 c1 n5 > 3:app t3 3.2 c1 [4.3]"},
		{"4 appreply t3 2.0", "L1 3.1 c1 n5 > 4:app t3 2.1 c1 [3.2 4.3]"},
		{"5 appreply t3 4.0", "L1 3.1 c1 n5"},
		{"2 appreply t3 4.0", "L1 3.1 c4 n5 > 2:app t3 4.3 c4 > 3:app t3 3.2 c4 [4.3] > 4:app t3 2.1 c4 [3.2 4.3] > 5:app t3 4.3 c4"},
		{"propose a b", ".."},
		{"2 appreply t3 6.0", "L1 3.1 c4 n7"},
		{"3 appreply t3 5.0", "L1 3.1 c5 n7 > 2:app t3 6.3 c5 > 3:app t3 5.3 c5 [6.3=b] > 4:app t3 2.1 c5 [3.2 4.3 5.3=a 6.3=b] > 5:app t3 4.3 c5 [5.3=a 6.3=b]"},
	}...)
}

// 16.4, to send: up to Batch entries from next on; a snapshot, if next is cut off.
func TestToSend(t *testing.T) {
	b := leader(t, 3)
	b.do("propose a b c d e", "3 appreply t1 6.0", "compact 4")
	b.plays([][2]string{
		{"2 appreply t1 3.0", "L1 1.1 c6 n7 s2 > 2:snap t1 4.1 c6"}, // next is 4
		{"2 appreply t1 4.0", "L1 1.1 c6 n7 > 2:app t1 4.1 c6 [5.1=d 6.1=e]"},
		{"propose f g h", ".."},
		{"2 appreply t1 5.0", "L1 1.1 c6 n10 > 2:app t1 5.1 c6 [6.1=e 7.1=f 8.1=g 9.1=h]"},
		{"propose i", "L1 1.1 c6 w10[10.1=i] p10-10 > 2:app t1 5.1 c6 [6.1=e 7.1=f 8.1=g 9.1=h] > 3:app t1 6.1 c6 [7.1=f 8.1=g 9.1=h 10.1=i]"},
	}...)
}
