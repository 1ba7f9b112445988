package replica_test

import (
	"math"
	"testing"

	"strata/api"
	"strata/replica"
)

// wrong is a message that is refused.
type wrong struct {
	what string
	m    api.Message
	err  api.Errno
}

// mustStay: refused messages change nothing.
func mustStay(t *testing.T, r *replica.Replica, files func() []api.File, l ...wrong) {
	t.Helper()
	before, status, log := files(), r.Status(), entriesText(r.Log())
	for _, c := range l {
		out, err := r.Receive(c.m, 0)
		if len(out) > 0 || err != c.err {
			t.Errorf("%s: %s, %d, want %d", c.what, text(out), err, c.err)
		}
		if !sameFiles(before, files()) || r.Status() != status || entriesText(r.Log()) != log {
			t.Errorf("%s: something has changed: %+v", c.what, r.Status())
		}
	}
}

// 18.5: messages of no kind, of no peer, and of raft's that are refused; the first of these comes first.
func TestReceiveRefuses(t *testing.T) {
	r, d := follower(t, 1<<22, 2, entries(t, 1, 3, 1)...)
	beat := api.Msg{Kind: api.MAppend, From: 1, To: 2, Term: 2, Index: 3, LogTerm: 1}
	tooLong := beat
	tooLong.Entries = long(4, 2, 0, api.MaxCommand+1)
	// What the message says of itself counts, and what raft's says, there.
	other := beat
	other.From = 3
	toOther := beat
	toOther.To = 3
	wrongKind := beat
	wrongKind.Kind = 9
	longVote := api.Msg{Kind: api.MVote, From: 3, To: 2, Term: 9, Entries: tooLong.Entries}
	raftOf := func(from, to int, m api.Msg) api.Message {
		return api.Message{Kind: api.PRaft, From: from, To: to, Raft: m}
	}
	var l []wrong
	for _, kind := range []int{math.MinInt, -1, 0, 4, 5, math.MaxInt} {
		m := raftOf(9, 9, tooLong)
		m.Kind = kind
		l = append(l, wrong{"no kind", m, api.ErrArg})
	}
	for kind := 1; kind <= 3; kind++ {
		for _, from := range []int{math.MinInt, -1, 0, 2, 4, 7, math.MaxInt} {
			m := raftOf(from, 2, tooLong)
			m.Kind = kind
			l = append(l, wrong{"no other peer", m, api.ErrPeer})
		}
		for _, to := range []int{math.MinInt, 0, 1, 3, 4, math.MaxInt} {
			m := raftOf(1, to, tooLong)
			m.Kind = kind
			l = append(l, wrong{"not to this one", m, api.ErrPeer})
		}
	}
	l = append(l,
		wrong{"an entry too long", raftOf(1, 2, tooLong), api.ErrLong},
		wrong{"an entry too long, of a kind that has none", raftOf(1, 2, longVote), api.ErrLong},
		wrong{"another one's of raft, though an entry is too long", raftOf(1, 2, api.Msg{Entries: tooLong.Entries}), api.ErrLong},
		wrong{"no kind of raft's", raftOf(1, 2, wrongKind), api.ErrEvent},
		wrong{"nothing of raft's", raftOf(1, 2, api.Msg{}), api.ErrEvent},
		wrong{"raft's is to another one", raftOf(1, 2, toOther), api.ErrEvent},
		wrong{"raft's is of no peer", raftOf(1, 2, api.Msg{Kind: api.MVote, From: 4, To: 2, Term: 3}), api.ErrEvent},
	)
	mustStay(t, r, d.Files, l...)
	// The longest entry that may be is taken; and a message that another one carries.
	m := raftOf(1, 2, beat)
	m.Raft.Entries = long(4, 2, api.MaxCommand)
	if out := receive(t, r, m); len(out) != 1 || out[0].To != 1 || r.Status().Last != 4 {
		t.Errorf("%s, %+v", text(out), r.Status())
	}
	m = raftOf(3, 2, beat)
	if out := receive(t, r, m); len(out) != 1 || out[0].To != 1 {
		t.Errorf("carried by 3: %s", text(out))
	}
	m = raftOf(1, 2, other)
	if out := receive(t, r, m); len(out) != 1 || out[0].To != 3 {
		t.Errorf("of 3: %s", text(out))
	}
	// What another one proposed is committed by it.
	receive(t, r, appending(2, 4, 2, 4))
	if s := r.Status(); s.Applied != 4 || s.Leader != 1 {
		t.Errorf("%+v", s)
	}
}

// 18.5: the draw of a message is that of the timeout that it brings.
func TestReceiveDraws(t *testing.T) {
	for draw := -3; draw < 6; draw++ {
		r, _ := follower(t, 1<<20, 1)
		_, err := r.Receive(appending(1, 0, 0, 0), draw)
		mustErr(t, "Receive", err, api.OK)
		ticks := 0
		for r.Status().Role == api.RFollower && ticks < 20 {
			tick(t, r)
			ticks++
		}
		if want := 3 + (draw%4+4)%4; ticks != want {
			t.Errorf("draw %d: %d ticks, want %d", draw, ticks, want)
		}
	}
	// And that of a tick.
	for draw := range 4 {
		r, _ := follower(t, 1<<20, 1)
		for r.Status().Role == api.RFollower {
			_, err := r.Tick(draw)
			mustErr(t, "Tick", err, api.OK)
		}
		n := 0
		for said := false; !said && n < 20; n++ {
			said = len(tick(t, r)) > 0
		}
		if n != 3+draw {
			t.Errorf("draw %d: it begins anew behind %d ticks", draw, n)
		}
	}
}
