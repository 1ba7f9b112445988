package raft_test

import (
	"testing"

	"strata/api"
)

func (b *bench) ticks(n int) api.Ready {
	b.Helper()
	var r api.Ready
	for range n {
		r = b.do("tick")
	}
	return r
}

// 16.5: of a node that is no leader: it begins just when elapsed is the timeout.
func TestTickOfAFollower(t *testing.T) {
	for draw := range 11 {
		b := open(t, three(), api.RaftState{}, draw)
		if r := b.ticks(9 + draw); r.Role != api.RFollower || len(r.Msgs) > 0 {
			t.Fatal(readyText(r))
		}
		if r := b.do("tick"); r.Role != api.RPre || len(r.Msgs) != 2 {
			t.Fatal(readyText(r))
		}
	}
}

// 16.5: a leader sends to all every Beat ticks.
func TestBeats(t *testing.T) {
	for beat := 1; beat <= 9; beat++ {
		c := three()
		c.Beat = beat
		b := open(t, c, api.RaftState{}, 0)
		b.elect()
		for i := 1; i <= 90; i++ {
			r := b.do("tick")
			if got := len(r.Msgs); (got == 2) != (i%beat == 0) || got%2 != 0 {
				t.Fatalf("Beat %d, tick %d: %s", beat, i, readyText(r))
			}
			b.do("2 appreply t1 1.0", "3 appreply t1 1.0")
		}
	}
}

// 16.5: a leader looks every Most ticks whom it has heard; without a majority it follows nobody.
func TestALeaderLooksWhomItHears(t *testing.T) {
	for _, x := range []struct {
		what   string
		events []string
		stays  bool
	}{
		{"nobody", nil, false},
		{"one of four", []string{"2 appreply t1 1.0"}, false},
		{"one twice", []string{"2 appreply t1 1.0", "2 appreply t1 1.0"}, false},
		{"two of four", []string{"2 appreply t1 1.0", "5 appreply t1 0.0 no"}, true},
		{"all", []string{"2 appreply t1 1.0", "3 appreply t1", "4 appreply t1", "5 appreply t1"}, true},
		{"one that is unreachable now", []string{"2 appreply t1 1.0", "5 appreply t1 1.0", "gone 5"}, false},
		{"one that was unreachable", []string{"2 appreply t1 1.0", "gone 5", "5 appreply t1 1.0"}, true},
		{"another one is unreachable", []string{"2 appreply t1 1.0", "5 appreply t1 1.0", "gone 3"}, true},
		{"what is no append's reply", []string{"2 appreply t1 1.0", "3 votereply t1", "3 prereply t2", "4 prereply t1 no"}, false},
	} {
		b := leader(t, 5)
		b.ticks(5)
		b.do(x.events...)
		if r := b.ticks(14); r.Role != api.RLeader {
			t.Fatalf("%s: %s", x.what, readyText(r))
		}
		r := b.do("tick 6")
		if (r.Role == api.RLeader) != x.stays {
			t.Errorf("%s: %s", x.what, readyText(r))
		}
		if !x.stays {
			// That is all: no beat goes out, though it is time for one.
			if r.Leader != 0 || r.Hard != (api.Hard{Term: 1, Vote: 1}) || r.Write || len(r.Msgs) > 0 || len(b.n.Progress()) > 0 {
				t.Errorf("%s: %s", x.what, readyText(r))
			}
			if got := b.wait(); got != 16 {
				t.Errorf("%s: %d ticks", x.what, got)
			}
			continue
		}
		if len(r.Msgs) != 4 {
			t.Errorf("%s: no beat: %s", x.what, readyText(r))
		}
		// What was heard ahead of the look counts no more.
		if r := b.ticks(19); r.Role != api.RLeader {
			t.Fatalf("%s: %s", x.what, readyText(r))
		}
		if r := b.do("tick"); r.Role != api.RFollower {
			t.Errorf("%s: %s", x.what, readyText(r))
		}
	}
}

// 16.6: who may propose, and what; the first error of the list.
func TestPropose(t *testing.T) {
	data := func(n int) api.Event {
		e := api.Event{Kind: api.EPropose}
		for range n {
			e.Data = append(e.Data, []byte{'z'})
		}
		return e
	}
	b := from(t, "1.0")
	for _, n := range []int{0, 17, 1000} {
		b.refuses(data(n), api.ErrArg)
	}
	b.refuses(data(1), api.ErrNotLeader)
	b.wait()
	b.refuses(data(16), api.ErrNotLeader)
	b.do("2 prereply t2")
	b.refuses(data(1), api.ErrNotLeader)
	b = leader(t, 3)
	b.refuses(data(0), api.ErrArg)
	b.refuses(data(17), api.ErrArg)
	r := b.take(data(16))
	if r.First != 2 || r.Last != 17 || !r.Write || r.From != 2 || len(r.Entries) != 16 || r.Entries[15].Index != 17 || r.Entries[15].Term != 1 || len(r.Msgs) != 2 || len(r.Msgs[0].Entries) != 4 {
		t.Errorf("%s", readyText(r))
	}
	r = b.take(api.Event{Kind: api.EPropose, Data: [][]byte{nil, {}}})
	if r.First != 18 || r.Last != 19 || len(r.Entries) != 2 || len(r.Entries[0].Data)+len(r.Entries[1].Data) > 0 {
		t.Errorf("%s", readyText(r))
	}
	b.do("hand 2")
	b.refuses(data(1), api.ErrHandOver)
	b.refuses(data(17), api.ErrArg)
}

// 16.6: the last index, and the last place in the log.
func TestProposeAtAnEnd(t *testing.T) {
	data := func(n int) api.Event { return api.Event{Kind: api.EPropose, Data: make([][]byte, n)} }
	b := open(t, three(), api.RaftState{Hard: api.Hard{Term: 1}, SnapIndex: api.MaxIndex - 4, SnapTerm: 1, Commit: api.MaxIndex - 4}, 0)
	b.elect()
	b.refuses(data(4), api.ErrLastIndex)
	if r := b.take(data(2)); r.First != api.MaxIndex-2 || r.Last != api.MaxIndex-1 {
		t.Errorf("%s", readyText(r))
	}
	b.refuses(data(2), api.ErrLastIndex)
	if r := b.take(data(1)); r.Last != api.MaxIndex {
		t.Errorf("%s", readyText(r))
	}
	b.refuses(data(1), api.ErrLastIndex)
	b.do("hand 2")
	b.refuses(data(1), api.ErrHandOver)

	b = open(t, three(), api.RaftState{Hard: api.Hard{Term: 1}, Log: many(1, api.MaxLog-4, 1)}, 0)
	b.elect()
	b.refuses(data(4), api.ErrLong)
	b.take(data(2))
	b.refuses(data(2), api.ErrLong)
	if r := b.take(data(1)); r.Last != api.MaxLog {
		t.Errorf("%s", readyText(r))
	}
	b.refuses(data(1), api.ErrLong)
	b.do("2 appreply t2 65536.0", "compact 1")
	if r := b.take(data(1)); r.First != api.MaxLog+1 {
		t.Errorf("%s", readyText(r))
	}
	b.refuses(data(1), api.ErrLong)

	// Of both the index comes first.
	b = open(t, three(), api.RaftState{Hard: api.Hard{Term: 1}, SnapIndex: api.MaxIndex - api.MaxLog, SnapTerm: 1, Commit: api.MaxIndex - api.MaxLog, Log: many(api.MaxIndex-api.MaxLog+1, api.MaxLog-1, 1)}, 0)
	b.elect()
	b.refuses(data(1), api.ErrLastIndex)
}

// 16.7: the log is cut off up to what is committed, in any role.
func TestCompact(t *testing.T) {
	b := from(t, "3.0 s2.1 c5 [3.1 4.2 5.2 6.3=x]")
	for _, index := range []int{-1, 0, 1, 2, 6, 7, api.MaxIndex, api.MaxIndex + 1, -1 << 63, 1<<63 - 1} {
		b.refuses(api.Event{Kind: api.ECompact, Index: index}, api.ErrCut)
	}
	b.plays([2]string{"compact 3", "F0 3.0 c5 n7"})
	b.is("3.0 s3.1 c5 [4.2 5.2 6.3=x]")
	b.wait()
	b.plays([2]string{"compact 5", "P0 3.0 c5 n7"})
	b.is("3.0 s5.2 c5 [6.3=x]")
	b.refuses(parseEvent(1, "compact 5"), api.ErrCut)
	b.do("2 prereply t4", "3 votereply t4", "3 appreply t4 7.0")
	b.plays([2]string{"compact 7", "L1 4.1 c7 n8"})
	b.is("4.1 s7.4 c7 []")
	// The node goes on behind it: the log's end and its term are those of the cut.
	b.plays([2]string{"propose y", "L1 4.1 c7 w8[8.4=y] p8-8 s2 > 2:snap t4 7.4 c7 > 3:app t4 7.4 c7 [8.4=y]"})
}

// 16.7: a snapshot that was installed; the errors in their order.
func TestInstalled(t *testing.T) {
	state := "3.2 s2.1 c4 [3.1 4.2 5.2=a 6.3=b]"
	for _, x := range []struct {
		index, term int
		want        api.Errno
	}{
		{0, 1, api.ErrEvent}, {-1, 1, api.ErrEvent}, {api.MaxIndex + 1, 1, api.ErrEvent},
		{9, 0, api.ErrEvent}, {9, -1, api.ErrEvent}, {9, 4, api.ErrEvent},
		{4, 2, api.ErrCut}, {1, 1, api.ErrCut}, {4, 4, api.ErrEvent}, {0, 4, api.ErrEvent},
	} {
		from(t, state).refuses(api.Event{Kind: api.EInstalled, Index: x.index, Term: x.term}, x.want)
	}
	for _, x := range []struct{ event, want, state string }{
		{"installed 5.2", "F0 3.2 c5 w6[6.3=b]", "3.2 s5.2 c5 [6.3=b]"},
		{"installed 5.3", "F0 3.2 c5 w6[]", "3.2 s5.3 c5 []"},
		{"installed 5.1", "F0 3.2 c5 w6[]", "3.2 s5.1 c5 []"},
		{"installed 6.3", "F0 3.2 c6 w7[]", "3.2 s6.3 c6 []"},
		{"installed 7.3", "F0 3.2 c7 w8[]", "3.2 s7.3 c7 []"},
		{"installed 1099511627776.1", "F0 3.2 c1099511627776 w1099511627777[]", "3.2 s1099511627776.1 c1099511627776 []"},
	} {
		b := from(t, state)
		b.plays([2]string{x.event, x.want})
		b.is(x.state)
	}
	b := leader(t, 3)
	b.do("propose a", "2 appreply t1 2.0", "propose b")
	b.refuses(parseEvent(1, "installed 2.1"), api.ErrCut)
	b.refuses(parseEvent(1, "installed 3.1"), api.ErrEvent)
	b.refuses(parseEvent(1, "installed 9.1"), api.ErrEvent)
}

// 16.7: behind what was installed a node goes on, in the role that it has.
func TestInstalledGoesOn(t *testing.T) {
	b := from(t, "3.0 [1.1]")
	b.do("2 app t3 1.1", "tick", "tick", "tick")
	b.plays([2]string{"installed 7.3", "F2 3.0 c7 w8[]"})
	b.plays([2]string{"2 app t3 7.3 c7 [8.3=x]", "F2 3.0 c7 w8[8.3=x] > 2:appreply t3 8.0"})
	b.do("2 votereply t4")
	b.wait()
	b.plays([2]string{"installed 9.4", "P0 4.0 c9 w10[]"})
	b.plays([2]string{"3 prereply t5", "C0 5.1 c9 w10[] > 2:vote t5 9.4 > 3:vote t5 9.4"})
	b.plays([2]string{"installed 12.4", "C0 5.1 c12 w13[]"})
	b.plays([2]string{"3 votereply t5", "L1 5.1 c12 w13[13.5] > 2:app t5 12.4 c12 [13.5] > 3:app t5 12.4 c12 [13.5]"})
	// Elapsed goes on where it was.
	b = from(t, "3.0")
	b.ticks(4)
	b.do("installed 2.1")
	if got := b.wait(); got != 6 {
		t.Errorf("%d ticks", got)
	}
}

// 16.8: an heir that has the whole log is told at once, another one as soon as it has.
func TestHandOver(t *testing.T) {
	b := from(t, "1.0")
	for _, peer := range []int{-1, 0, 1, 4, 8} {
		b.refuses(api.Event{Kind: api.EHandOver, Peer: peer}, api.ErrEvent)
	}
	b.refuses(parseEvent(1, "hand 2"), api.ErrNotLeader)
	b = leader(t, 3)
	for _, peer := range []int{-1, 0, 1, 4, 8} {
		b.refuses(api.Event{Kind: api.EHandOver, Peer: peer}, api.ErrEvent)
	}
	b.plays([][2]string{
		{"propose a", ".."},
		{"hand 2", "L1 1.1 c0 n3 > 2:app t1 [1.1 2.1=a]"},
		{"propose b", "error 164"},
		{"3 appreply t1 2.0", "L1 1.1 c2 n3 > 2:app t1 c2 [1.1 2.1=a] > 3:app t1 2.1 c2"},
		{"2 appreply t1 1.0", "L1 1.1 c2 n3 > 2:app t1 1.1 c2 [2.1=a]"},
		{"2 appreply t1 2.0", "L1 1.1 c2 n3 > 2:hand t1"},
		{"2 appreply t1 2.0", "L1 1.1 c2 n3 > 2:hand t1"},
		{"2 appreply t1 1.0", "L1 1.1 c2 n3 > 2:hand t1"},
		{"2 appreply t1 9.0 no h3", "L1 1.1 c2 n3 > 2:hand t1"},
		{"3 appreply t1 2.0", "L1 1.1 c2 n3"},
		{"hand 3", "L1 1.1 c2 n3 > 3:hand t1"},
		{"2 appreply t1 2.0", "L1 1.1 c2 n3"},
		{"3 appreply t1 2.0 no h1", "L1 1.1 c2 n3 > 3:app t1 2.1 c2 > 3:hand t1"},
		{"propose b", "error 164"},
	}...)
}

// 16.8: an heir whose next is cut off is sent a snapshot.
func TestHandOverToOneThatLags(t *testing.T) {
	b := leader(t, 3)
	b.do("propose a", "2 appreply t1 2.0", "compact 2")
	b.plays([][2]string{
		{"hand 3", "L1 1.1 c2 n3 s3 > 3:snap t1 2.1 c2"},
		{"3 appreply t1 2.0", "L1 1.1 c2 n3 > 3:hand t1"},
	}...)
}

// 16.5, 16.8: an heir has Most ticks, from when it was named on; then there is none.
func TestAnHeirInTime(t *testing.T) {
	b := leader(t, 3)
	b.do("propose a")
	b.ticks(13)
	b.do("2 appreply t1 2.0", "hand 2")
	for i := range 19 {
		b.refuses(parseEvent(1, "propose b"), api.ErrHandOver)
		if r := b.do("tick"); r.Role != api.RLeader {
			t.Fatalf("tick %d: %s", i, readyText(r))
		}
	}
	b.refuses(parseEvent(1, "propose b"), api.ErrHandOver)
	if r := b.do("tick"); r.Role != api.RLeader {
		t.Fatal(readyText(r))
	}
	b.plays([][2]string{
		{"propose b", "L1 1.1 c2 w3[3.1=b] p3-3 > 2:app t1 2.1 c2 [3.1=b] > 3:app t1 c2 [1.1 2.1=a 3.1=b]"},
		{"2 appreply t1 3.0", "L1 1.1 c3 n4 > 2:app t1 3.1 c3 > 3:app t1 c3 [1.1 2.1=a 3.1=b]"},
	}...)
}

// 16.8: EUnreachable asks for another peer, of any node.
func TestUnreachable(t *testing.T) {
	b := from(t, "1.0")
	for range 2 {
		for _, peer := range []int{-1, 0, 1, 4, 8} {
			b.refuses(api.Event{Kind: api.EUnreachable, Peer: peer}, api.ErrEvent)
		}
		b.do("gone 2", "gone 3", "gone 3")
		b.elect()
	}
	b = from(t, "1.0")
	b.plays([2]string{"gone 2", "F0 1.0 c0 n1"})
	b.do("2 app t1")
	b.plays([2]string{"gone 2", "F2 1.0 c0 n1"})
}

// An event of no kind is refused, in every role.
func TestEventsOfNoKind(t *testing.T) {
	b := from(t, "1.0 [1.1]")
	for range 2 {
		for _, kind := range []int{-1 << 63, -1, 0, 8, 9, 1<<63 - 1} {
			b.refuses(api.Event{Kind: kind, Index: 1, Term: 1, Peer: 2, Data: [][]byte{{1}}, Msg: api.Msg{Kind: api.MAppend, From: 2, To: 1, Term: 1}}, api.ErrEvent)
		}
		b.elect()
	}
}
