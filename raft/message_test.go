package raft_test

import (
	"testing"

	"strata/api"
)

// 16.9: what no message may be: each number just within its bounds, and just outside.
func TestMessagesThatMayNotBe(t *testing.T) {
	for _, x := range []struct {
		what string
		f    func(m *api.Msg)
		good bool
	}{
		{"as it is", func(m *api.Msg) {}, true},
		{"Kind 0", func(m *api.Msg) { m.Kind, m.Entries = 0, nil }, false},
		{"Kind 9", func(m *api.Msg) { m.Kind, m.Entries = 9, nil }, false},
		{"Kind below 0", func(m *api.Msg) { m.Kind, m.Entries = -1, nil }, false},
		{"of itself", func(m *api.Msg) { m.From = 1 }, false},
		{"of nobody", func(m *api.Msg) { m.From = 0 }, false},
		{"of a stranger", func(m *api.Msg) { m.From = 4 }, false},
		{"to nobody", func(m *api.Msg) { m.To = 0 }, false},
		{"to another", func(m *api.Msg) { m.To = 3 }, false},
		{"Term 0", func(m *api.Msg) { m.Term, m.Index, m.LogTerm, m.Entries = 0, 0, 0, nil }, false},
		{"Term below 0", func(m *api.Msg) { m.Term, m.Index, m.LogTerm, m.Entries = -1, 0, 0, nil }, false},
		{"Term 1", func(m *api.Msg) { m.Term, m.Index, m.LogTerm, m.Entries = 1, 0, 0, nil }, true},
		{"the last Term", func(m *api.Msg) { m.Term = api.MaxTerm }, true},
		{"above it", func(m *api.Msg) { m.Term = api.MaxTerm + 1 }, false},
		{"Index below 0", func(m *api.Msg) { m.Index, m.Entries = -1, nil }, false},
		{"the last Index", func(m *api.Msg) { m.Index, m.Entries = api.MaxIndex, nil }, true},
		{"above it", func(m *api.Msg) { m.Index, m.Entries = api.MaxIndex+1, nil }, false},
		{"Commit below 0", func(m *api.Msg) { m.Commit = -1 }, false},
		{"the last Commit", func(m *api.Msg) { m.Commit = api.MaxIndex }, true},
		{"above it", func(m *api.Msg) { m.Commit = api.MaxIndex + 1 }, false},
		{"Hint below 0", func(m *api.Msg) { m.Hint = -1 }, false},
		{"the last Hint", func(m *api.Msg) { m.Hint = api.MaxIndex }, true},
		{"above it", func(m *api.Msg) { m.Hint = api.MaxIndex + 1 }, false},
		{"LogTerm below 0", func(m *api.Msg) { m.LogTerm = -1 }, false},
		{"LogTerm is Term", func(m *api.Msg) { m.LogTerm, m.Entries = 3, nil }, true},
		{"LogTerm above it", func(m *api.Msg) { m.LogTerm, m.Entries = 4, nil }, false},
		{"no LogTerm", func(m *api.Msg) { m.LogTerm = 0 }, false},
		{"LogTerm of no Index", func(m *api.Msg) { m.Index, m.Entries = 0, nil }, false},
		{"a gap ahead", func(m *api.Msg) { m.Entries = entries(8, 2) }, false},
		{"its own Index", func(m *api.Msg) { m.Entries = entries(6, 2) }, false},
		{"a gap", func(m *api.Msg) { m.Entries[1].Index = 9 }, false},
		{"terms that fall", func(m *api.Msg) { m.Entries = entries(7, 3, 2) }, false},
		{"a term below LogTerm", func(m *api.Msg) { m.Entries = entries(7, 1) }, false},
		{"a term below 1", func(m *api.Msg) { m.Index, m.LogTerm, m.Entries = 0, 0, entries(1, 0) }, false},
		{"a term above Term", func(m *api.Msg) { m.Entries = entries(7, 4) }, false},
		{"no entries", func(m *api.Msg) { m.Entries = nil }, true},
		{"16 entries", func(m *api.Msg) { m.Entries = many(7, 16, 2) }, true},
		{"17 entries", func(m *api.Msg) { m.Entries = many(7, 17, 2) }, false},
		{"an entry at the last index", func(m *api.Msg) { m.Index, m.Entries = api.MaxIndex-1, entries(api.MaxIndex, 2) }, true},
		{"an entry above it", func(m *api.Msg) { m.Index, m.Entries = api.MaxIndex-1, entries(api.MaxIndex, 2, 2) }, false},
	} {
		m := api.Msg{Kind: api.MAppend, From: 2, To: 1, Term: 3, Index: 6, LogTerm: 2, Commit: 1, Entries: entries(7, 2, 3)}
		x.f(&m)
		b := from(t, "2.0 s1.1 c1 [2.1]")
		if m.Index == 0 {
			b = from(t, "2.0")
		}
		e := api.Event{Kind: api.EMsg, Msg: m}
		if !x.good {
			b.refuses(e, api.ErrEvent)
		} else if _, err := b.n.Step(e); err != api.OK {
			t.Errorf("%s: %d", x.what, err)
		}
	}
}

// 16.9: which kinds need a place with its term, and which may have entries.
func TestMessagesByKind(t *testing.T) {
	for kind := api.MPreVote; kind <= api.MHandOver; kind++ {
		placed := kind == api.MPreVote || kind == api.MVote || kind == api.MAppend || kind == api.MSnapshot
		for _, x := range []struct {
			what string
			m    api.Msg
			good bool
		}{
			{"a place", api.Msg{Index: 4, LogTerm: 2}, true},
			{"no LogTerm", api.Msg{Index: 4}, !placed},
			{"a LogTerm alone", api.Msg{LogTerm: 2}, !placed},
			{"nothing", api.Msg{}, kind != api.MSnapshot},
			{"a LogTerm above Term", api.Msg{Index: 4, LogTerm: 4}, false},
			{"a LogTerm below 0", api.Msg{Index: 4, LogTerm: -1}, false},
			{"entries", api.Msg{Index: 4, LogTerm: 2, Entries: entries(5, 2)}, kind == api.MAppend},
			{"a hint", api.Msg{Index: 4, LogTerm: 2, Hint: 9}, true},
			{"a hint and Reject", api.Msg{Index: 4, LogTerm: 2, Hint: 4, Reject: true}, kind != api.MAppendReply},
			{"a Commit", api.Msg{Index: 4, LogTerm: 2, Commit: 9, Reject: true}, true},
		} {
			x.m.Kind, x.m.From, x.m.To, x.m.Term = kind, 3, 1, 3
			b := from(t, "2.0")
			e := api.Event{Kind: api.EMsg, Msg: x.m}
			if !x.good {
				b.refuses(e, api.ErrEvent)
			} else if _, err := b.n.Step(e); err != api.OK {
				t.Errorf("kind %d, %s: %d", kind, x.what, err)
			}
		}
	}
}

// 16.9: a refusal's Hint is below its Index, or both are 0; whatever the role and the Term.
func TestHintsOfARefusal(t *testing.T) {
	for _, x := range []struct {
		message string
		good    bool
	}{
		{"2 appreply t%d no", true}, {"2 appreply t%d 3.0 no h2", true}, {"2 appreply t%d 3.0 no", true},
		{"2 appreply t%d 3.0 no h3", false}, {"2 appreply t%d 3.0 no h4", false}, {"2 appreply t%d no h1", false}, {"2 appreply t%d 1.0 h1", true},
	} {
		for _, term := range []int{1, 2, 3} {
			for _, leads := range []bool{false, true} {
				b := from(t, "1.0")
				if leads {
					b.elect()
				} else {
					b.do("2 votereply t2")
				}
				e := parseEvent(1, x.message[:len("2 appreply t")]+string(rune('0'+term))+x.message[len("2 appreply t%d"):])
				if !x.good {
					b.refuses(e, api.ErrEvent)
				} else if _, err := b.n.Step(e); err != api.OK {
					t.Errorf("%s, Term %d: %d", x.message, term, err)
				}
			}
		}
	}
}

// 16.9: what no right node can send.
func TestMessagesOfNoRightNode(t *testing.T) {
	b := leader(t, 3)
	b.do("propose a b", "2 appreply t1 2.0")
	b.plays([][2]string{
		{"2 app t1 1.1", "error 161"},
		{"3 snap t1 1.1", "error 161"},
		{"3 appreply t1 4.0", "error 161"},
		{"3 appreply t1 4.0 no h3", "L1 1.1 c2 n4"},
		{"3 appreply t1 3.0", "L1 1.1 c3 n4 > 2:app t1 2.1 c3 [3.1=b] > 3:app t1 3.1 c3"},
		{"2 app t2 3.2", "error 161"},
		{"3 appreply t2 9.0", "F0 2.0 c3 w4[]"},
		{"2 app t1 3.2", "error 161"}, // its LogTerm is above its own Term
	}...)
	b = from(t, "3.0 s2.1 c4 [3.1 4.2 5.3]")
	b.plays([][2]string{
		{"2 app t3 4.3", "error 161"},
		{"2 app t3 4.1", "error 161"},
		{"2 app t4 4.3", "error 161"},
		{"2 app t2 4.1", "F0 3.0 c4 n6 > 2:appreply t3 4.0 no"},
		{"2 app t3 5.2", "F2 3.0 c4 n6 > 2:appreply t3 5.0 h4 no"},
		{"2 app t3 3.3", "F2 3.0 c4 n6 > 2:appreply t3 4.0"},
		{"2 appreply t3 9.0", "F2 3.0 c4 n6"},
		{"2 app t4 4.2", "F2 4.0 c4 w6[] > 2:appreply t4 4.0"},
	}...)
	b = from(t, "3.0 s2.1 c2 [3.1]")
	b.plays([][2]string{
		{"2 app t3 2.2", "error 161"},
		{"2 app t3", "F2 3.0 c2 n4 > 2:appreply t3 2.0"},
		{"2 app t3 2.1", "F2 3.0 c2 n4 > 2:appreply t3 2.0"},
	}...)
}

// 16.9, 1: who has a leader does not hear those that want to lead; but one to which it is handed over.
func TestWhoHasALeader(t *testing.T) {
	follows := func(t *testing.T) *bench {
		b := from(t, "3.0 [1.1]")
		b.do("2 app t3 1.1 d5")
		return b
	}
	for _, x := range []struct {
		what  string
		ticks int
		m     string
		want  string
	}{
		{"a pre-vote", 0, "3 pre t4 5.3", "F2 3.0 c0 n2"},
		{"a vote", 0, "3 vote t4 5.3", "F2 3.0 c0 n2"},
		{"of the leader itself", 0, "2 vote t4 5.3", "F2 3.0 c0 n2"},
		{"at the end of Least", 9, "3 vote t9 5.3", "F2 3.0 c0 n2"},
		{"at the end of Least", 9, "3 pre t9 5.3", "F2 3.0 c0 n2"},
		{"behind it", 10, "3 pre t4 5.3", "F2 3.0 c0 n2 > 3:prereply t4"},
		{"behind it", 10, "3 vote t4 5.3", "F0 4.3 c0 w2[] > 3:votereply t4"},
		{"forced", 0, "3 vote t4 5.3 h1", "F0 4.3 c0 w2[] > 3:votereply t4"},
		{"forced by any hint", 0, "3 vote t4 5.3 h77", "F0 4.3 c0 w2[] > 3:votereply t4"},
		{"a pre-vote is never forced", 0, "3 pre t4 5.3 h1", "F2 3.0 c0 n2"},
		{"a pre-vote of this term", 0, "3 pre t3 5.3", "F2 3.0 c0 n2 > 3:prereply t3 no"},
		{"a vote of this term", 0, "3 vote t3 5.3", "F2 3.0 c0 n2 > 3:votereply t3 no"},
		{"a pre-vote of an older term", 0, "3 pre t2 5.2", "F2 3.0 c0 n2 > 3:prereply t3 no"},
		{"a vote of an older term", 0, "3 vote t2 5.2", "F2 3.0 c0 n2 > 3:votereply t3 no"},
	} {
		b := follows(t)
		b.ticks(x.ticks)
		if got := readyText(b.do(x.m)); got != x.want {
			t.Errorf("%s, %s:\n got %s\nwant %s", x.what, x.m, got, x.want)
		}
	}
	// A leader has itself, however long; but one to which it hands over is heard.
	b := leader(t, 3)
	for range 19 {
		b.plays([2]string{"tick", ".."}, [2]string{"3 vote t9 5.3", "L1 1.1 c0 n2"}, [2]string{"3 pre t9 5.3", "L1 1.1 c0 n2"})
	}
	b.plays([2]string{"3 vote t2 1.1 h1", "F0 2.3 c0 w2[] > 3:votereply t2"})
	// Without a leader all are heard, at any time.
	b = from(t, "3.0 [1.1]")
	b.plays([2]string{"3 pre t4 1.1", "F0 3.0 c0 n2 > 3:prereply t4"})
	b.plays([2]string{"3 vote t4 1.1", "F0 4.3 c0 w2[] > 3:votereply t4"})
}

// 16.9, 2: a higher Term is followed, but of a pre-vote and of one that grants it.
func TestHigherTerms(t *testing.T) {
	for _, x := range []struct{ m, want string }{
		{"3 pre t5 1.1", "F0 3.2 c0 n2 > 3:prereply t5"},
		{"3 pre t5", "F0 3.2 c0 n2 > 3:prereply t3 no"},
		{"3 prereply t5", "F0 3.2 c0 n2"},
		{"3 prereply t5 no", "F0 5.0 c0 w2[]"},
		{"3 vote t5 1.1", "F0 5.3 c0 w2[] > 3:votereply t5"},
		{"3 vote t5", "F0 5.0 c0 w2[] > 3:votereply t5 no"},
		{"3 votereply t5", "F0 5.0 c0 w2[]"},
		{"3 votereply t5 no", "F0 5.0 c0 w2[]"},
		{"3 app t5 1.1", "F3 5.0 c0 w2[] > 3:appreply t5 1.0"},
		{"3 app t5 9.1", "F3 5.0 c0 w2[] > 3:appreply t5 9.0 h1 no"},
		{"3 appreply t5 1.0", "F0 5.0 c0 w2[]"},
		{"3 appreply t5 1.0 no", "F0 5.0 c0 w2[]"},
		{"3 snap t5 1.1", "F3 5.0 c1 w2[] > 3:appreply t5 1.0"},
		{"3 hand t5", "F0 5.0 c0 w2[]"},
	} {
		b := from(t, "3.2 [1.1]")
		b.plays([2]string{x.m, x.want})
	}
	// Of a leader too.
	for _, x := range []struct{ m, want string }{
		{"3 prereply t5", "L1 1.1 c0 n2"},
		{"3 prereply t5 no", "F0 5.0 c0 w2[]"},
		{"3 votereply t5", "F0 5.0 c0 w2[]"},
		{"3 app t5 1.1", "F3 5.0 c0 w2[] > 3:appreply t5 1.0"},
		{"3 appreply t5 1.0", "F0 5.0 c0 w2[]"},
		{"3 snap t5 1.1", "F3 5.0 c1 w2[] > 3:appreply t5 1.0"},
		{"3 hand t5", "F0 5.0 c0 w2[]"},
	} {
		b := leader(t, 3)
		b.plays([2]string{x.m, x.want})
	}
}

// 16.9, 3: a lower Term is answered only where somebody waits for it.
func TestLowerTerms(t *testing.T) {
	for _, role := range []string{"F0 3.2", "P0 3.2", "L1 3.1"} {
		for _, x := range []struct{ m, said string }{
			{"3 pre t2 5.2", " > 3:prereply t3 no"},
			{"3 prereply t2", ""},
			{"3 prereply t2 no", ""},
			{"3 vote t2 5.2", " > 3:votereply t3 no"},
			{"3 vote t2 5.2 h1", " > 3:votereply t3 no"},
			{"3 votereply t2", ""},
			{"3 app t2 1.1 c1 [2.2=x]", " > 3:appreply t3 1.0 no"},
			{"3 app t2", " > 3:appreply t3 no"},
			{"3 appreply t2 1.0", ""},
			{"3 appreply t2 1.0 no", ""},
			{"3 snap t2 7.2 c7", " > 3:appreply t3 7.0 no"},
			{"3 hand t2", ""},
		} {
			b := from(t, "3.2 [1.1]")
			want := role + " c0 n2" + x.said
			switch role[0] {
			case 'P':
				b.wait()
			case 'L':
				b = from(t, "2.0 [1.1]")
				b.elect()
				want = role + " c0 n3" + x.said
			}
			b.plays([2]string{x.m, want})
		}
	}
}

// 16.9: a log is as good, if its last term is higher, or the same and it is not shorter; 16.10 and 16.11 ask for it.
func TestWhichLogIsAsGood(t *testing.T) {
	for _, x := range []struct {
		state, place string
		good         bool
	}{
		{"3.0 [1.1 2.2 3.2]", "3.2", true}, {"3.0 [1.1 2.2 3.2]", "4.2", true}, {"3.0 [1.1 2.2 3.2]", "2.2", false},
		{"3.0 [1.1 2.2 3.2]", "1.3", true}, {"3.0 [1.1 2.2 3.2]", "9.1", false}, {"3.0 [1.1 2.2 3.2]", "0.0", false},
		{"3.0", "0.0", true}, {"3.0", "1.1", true},
		{"3.0 s5.2 c5", "5.2", true}, {"3.0 s5.2 c5", "4.2", false}, {"3.0 s5.2 c5", "1.3", true}, {"3.0 s5.2 c5", "9.1", false},
	} {
		no := map[bool]string{true: "", false: " no"}[x.good]
		b := from(t, x.state)
		r := b.do("2 pre t4 " + x.place)
		if want := map[bool]string{true: "2:prereply t4", false: "2:prereply t3 no"}[x.good]; len(r.Msgs) != 1 || messageText(r.Msgs[0]) != want || r.Write {
			t.Errorf("%s, %s: %s", x.state, x.place, readyText(r))
		}
		r = b.do("2 vote t4 " + x.place)
		if len(r.Msgs) != 1 || messageText(r.Msgs[0]) != "2:votereply t4"+no || (r.Hard.Vote == 2) != x.good || !r.Write {
			t.Errorf("%s, %s: %s", x.state, x.place, readyText(r))
		}
	}
}

// 16.10: a pre-vote is granted as often as it is asked for, by nobody's loss; only a node in the role pre counts them.
func TestPreVotes(t *testing.T) {
	b := from(t, "3.2 [1.1]")
	b.ticks(5)
	b.plays([][2]string{
		{"3 pre t4 1.1 d9", "F0 3.2 c0 n2 > 3:prereply t4"},
		{"2 pre t4 1.1 d9", "F0 3.2 c0 n2 > 2:prereply t4"},
		{"3 pre t9 1.1 d9", "F0 3.2 c0 n2 > 3:prereply t9"},
		{"3 pre t3 1.1 d9", "F0 3.2 c0 n2 > 3:prereply t3 no"},
		{"3 prereply t4", "F0 3.2 c0 n2"},
	}...)
	// It did not make the node wait longer.
	if got := b.wait(); got != 5 {
		t.Errorf("%d ticks", got)
	}
	b.plays([][2]string{
		{"2 prereply t3 no", "P0 3.2 c0 n2"},
		{"2 prereply t3", "P0 3.2 c0 n2"},
		{"2 prereply t5", "P0 3.2 c0 n2"},
		{"3 prereply t4 no", "F0 4.0 c0 w2[]"},
	}...)
	b.wait()
	b.plays([][2]string{
		{"3 prereply t5 d3", "C0 5.1 c0 w2[] > 2:vote t5 1.1 > 3:vote t5 1.1"},
		{"2 prereply t6", "C0 5.1 c0 n2"},
		{"2 prereply t5", "C0 5.1 c0 n2"},
	}...)
	if got := b.wait(); got != 13 {
		t.Errorf("%d ticks", got)
	}
	// A node in the role pre grants a pre-vote, and stays what it is.
	b.plays([2]string{"2 pre t6 1.1", "P0 5.1 c0 n2 > 2:prereply t6"})
}

// 16.11: one vote a term, for one whose log is as good; it makes the node wait anew.
func TestVotes(t *testing.T) {
	b := from(t, "3.0 [1.1]")
	b.ticks(5)
	b.plays([][2]string{
		{"3 vote t3 d9", "F0 3.0 c0 n2 > 3:votereply t3 no"},
		{"2 vote t3 1.1 d4", "F0 3.2 c0 w2[] > 2:votereply t3"},
	}...)
	b.ticks(3)
	b.plays([][2]string{
		{"3 vote t3 7.3 d9", "F0 3.2 c0 n2 > 3:votereply t3 no"},
		{"3 vote t3 7.3 h1", "F0 3.2 c0 n2 > 3:votereply t3 no"},
		{"2 vote t3", "F0 3.2 c0 n2 > 2:votereply t3 no"},
	}...)
	if got := b.wait(); got != 11 {
		t.Errorf("%d ticks", got)
	}
	b = from(t, "3.0 [1.1]")
	b.do("2 vote t3 1.1 d4")
	b.ticks(3)
	b.plays([2]string{"2 vote t3 1.1 d2", "F0 3.2 c0 n2 > 2:votereply t3"})
	if got := b.wait(); got != 12 {
		t.Errorf("%d ticks", got)
	}
	// Who knows the leader of a term votes for nobody any more in it, but again for whom it voted.
	b = from(t, "3.0 [1.1]")
	b.do("2 app t3 1.1")
	b.plays([2]string{"2 vote t3 1.1", "F2 3.0 c0 n2 > 2:votereply t3 no"})
	b = from(t, "3.2 [1.1]")
	b.do("2 app t3 1.1")
	b.plays([2]string{"2 vote t3 1.1", "F2 3.2 c0 n2 > 2:votereply t3"})
	// A node in the role pre may vote in its term, and stays what it is.
	b = from(t, "3.0 [1.1]")
	b.wait()
	b.plays([][2]string{
		{"2 vote t3 1.1 d4", "P0 3.2 c0 w2[] > 2:votereply t3"},
		{"3 prereply t4", "C0 4.1 c0 w2[] > 2:vote t4 1.1 > 3:vote t4 1.1"},
		{"2 vote t4 7.4", "C0 4.1 c0 n2 > 2:votereply t4 no"},
		{"2 vote t5 7.4", "F0 5.2 c0 w2[] > 2:votereply t5"},
	}...)
}

// 16.11: a candidate counts who granted and who refused.
func TestVoteReplies(t *testing.T) {
	stands := func(peers int) *bench {
		b := open(t, among(peers), parseState("3.0 [1.1]"), 0)
		b.wait()
		for p := 2; b.n.State().Hard.Term == 3; p++ {
			b.take(api.Event{Kind: api.EMsg, Msg: api.Msg{Kind: api.MPreReply, From: p, To: 1, Term: 4}})
		}
		return b
	}
	b := stands(3)
	b.plays([][2]string{
		{"2 votereply t4 no", "C0 4.1 c0 n2"},
		{"2 votereply t4 no", "C0 4.1 c0 n2"},
		{"3 votereply t4 no d4", "F0 4.1 c0 n2"},
		{"3 votereply t4", "F0 4.1 c0 n2"},
		{"2 votereply t4", "F0 4.1 c0 n2"},
	}...)
	if got := b.wait(); got != 14 {
		t.Errorf("%d ticks", got)
	}
	b = stands(3)
	b.plays([][2]string{
		{"2 votereply t4 no", "C0 4.1 c0 n2"},
		{"2 votereply t4", "L1 4.1 c0 w2[2.4] > 2:app t4 1.1 [2.4] > 3:app t4 1.1 [2.4]"},
		{"3 votereply t4 no", "L1 4.1 c0 n3"},
		{"2 votereply t4 no", "L1 4.1 c0 n3"},
	}...)
	b = stands(5)
	b.plays([][2]string{
		{"2 votereply t4", "C0 4.1 c0 n2"},
		{"2 votereply t4", "C0 4.1 c0 n2"},
		{"2 votereply t4 no", "C0 4.1 c0 n2"}, // it granted already
		{"3 votereply t4 no", "C0 4.1 c0 n2"},
		{"4 votereply t4 no", "C0 4.1 c0 n2"},
		{"3 votereply t4", "L1 4.1 c0 w2[2.4] > 2:app t4 1.1 [2.4] > 3:app t4 1.1 [2.4] > 4:app t4 1.1 [2.4] > 5:app t4 1.1 [2.4]"},
	}...)
	b = stands(7)
	b.plays([][2]string{
		{"2 votereply t4 no", "C0 4.1 c0 n2"},
		{"3 votereply t4 no", "C0 4.1 c0 n2"},
		{"4 votereply t4 no", "C0 4.1 c0 n2"},
		{"4 votereply t4", "C0 4.1 c0 n2"}, // it counts no more as refusing
		{"5 votereply t4 no", "C0 4.1 c0 n2"},
		{"4 votereply t4 no", "C0 4.1 c0 n2"},
		{"6 votereply t4 no", "F0 4.1 c0 n2"},
	}...)
	// Of four, two are no majority.
	b = stands(4)
	b.plays([][2]string{
		{"2 votereply t4 no", "C0 4.1 c0 n2"},
		{"3 votereply t4 no", "C0 4.1 c0 n2"},
		{"4 votereply t4 no", "F0 4.1 c0 n2"},
	}...)
}

// 16.12: what an append finds, and what it is answered.
func TestAppend(t *testing.T) {
	state := "3.2 s2.1 c4 [3.1 4.2 5.2=a 6.3=b]"
	for _, x := range []struct{ m, want, behind string }{
		{"2 app t3 3.1 c9 [4.2 5.3]", "F2 3.2 c4 n7 > 2:appreply t3 4.0", state},
		{"2 app t3 c9", "F2 3.2 c4 n7 > 2:appreply t3 4.0", state},
		{"2 app t3 7.3 c9 [8.3]", "F2 3.2 c4 n7 > 2:appreply t3 7.0 h6 no", state},
		{"2 app t3 6.2 c9 [7.3]", "F2 3.2 c4 n7 > 2:appreply t3 6.0 h5 no", state},
		{"2 app t3 5.3 c9", "F2 3.2 c4 n7 > 2:appreply t3 5.0 h4 no", state},
		{"2 app t3 4.2", "F2 3.2 c4 n7 > 2:appreply t3 4.0", state},
		{"2 app t3 4.2 c9", "F2 3.2 c4 n7 > 2:appreply t3 4.0", state},
		{"2 app t3 5.2 c9", "F2 3.2 c5 n7 > 2:appreply t3 5.0", "3.2 s2.1 c5 [3.1 4.2 5.2=a 6.3=b]"},
		{"2 app t3 6.3 c5", "F2 3.2 c5 n7 > 2:appreply t3 6.0", "3.2 s2.1 c5 [3.1 4.2 5.2=a 6.3=b]"},
		{"2 app t3 6.3 c3", "F2 3.2 c4 n7 > 2:appreply t3 6.0", state},
		{"2 app t3 4.2 c9 [5.2=z]", "F2 3.2 c5 n7 > 2:appreply t3 5.0", "3.2 s2.1 c5 [3.1 4.2 5.2=a 6.3=b]"},
		{"2 app t3 4.2 c6 [5.2 6.3 7.3=c]", "F2 3.2 c6 w7[7.3=c] > 2:appreply t3 7.0", "3.2 s2.1 c6 [3.1 4.2 5.2=a 6.3=b 7.3=c]"},
		{"2 app t3 4.2 c9 [5.3=c]", "F2 3.2 c5 w5[5.3=c] > 2:appreply t3 5.0", "3.2 s2.1 c5 [3.1 4.2 5.3=c]"},
		{"2 app t3 4.2 c4 [5.2=x 6.2=c 7.3=d]", "F2 3.2 c4 w6[6.2=c 7.3=d] > 2:appreply t3 7.0", "3.2 s2.1 c4 [3.1 4.2 5.2=a 6.2=c 7.3=d]"},
		{"3 app t5 5.2 c6 [6.5=c]", "F3 5.0 c6 w6[6.5=c] > 3:appreply t5 6.0", "5.0 s2.1 c6 [3.1 4.2 5.2=a 6.5=c]"},
	} {
		b := from(t, state)
		b.plays([2]string{x.m, x.want})
		b.is(x.behind)
	}
	// Candidates and those in the role pre follow who leads their term.
	b := from(t, "3.0")
	b.wait()
	b.plays([2]string{"2 app t3 [1.3]", "F2 3.0 c0 w1[1.3] > 2:appreply t3 1.0"})
	b.wait()
	b.do("2 prereply t4")
	b.plays([2]string{"3 app t4 1.3 d2", "F3 4.1 c0 n2 > 3:appreply t4 1.0"})
	if got := b.wait(); got != 12 {
		t.Errorf("%d ticks", got)
	}
}

// 16.12: entries join as far as MaxLog lets them.
func TestAppendToAFullLog(t *testing.T) {
	state := api.RaftState{Hard: api.Hard{Term: 2}, Commit: 5, Log: many(1, api.MaxLog-2, 1)}
	last := len(state.Log)
	appends := func(index, logTerm, term, n int) api.Event {
		return api.Event{Kind: api.EMsg, Msg: api.Msg{Kind: api.MAppend, From: 2, To: 1, Term: 2, Index: index, LogTerm: logTerm, Commit: api.MaxIndex, Entries: many(index+1, n, term)}}
	}
	must := func(r api.Ready, from, n, end int) {
		t.Helper()
		if r.Write != (n > 0) || r.From != from || len(r.Entries) != n || r.Commit != end || len(r.Msgs) != 1 || r.Msgs[0].Index != end || r.Msgs[0].Reject {
			t.Errorf("Write %v, From %d, %d entries, Commit %d, %s", r.Write, r.From, len(r.Entries), r.Commit, messageText(r.Msgs[0]))
		}
	}
	b := open(t, three(), state, 0)
	must(b.take(appends(last, 1, 2, 5)), last+1, 2, last+2)
	must(b.take(appends(last+2, 2, 2, 5)), last+3, 0, last+2)
	must(b.take(appends(last+1, 2, 2, 5)), last+3, 0, last+2)
	b = open(t, three(), state, 0)
	must(b.take(appends(last-3, 1, 2, 16)), last-2, 5, last+2)
	b = open(t, three(), state, 0)
	must(b.take(appends(last-4, 1, 1, 16)), last+1, 2, last+2)
	if n := len(b.n.State().Log); n != api.MaxLog {
		t.Errorf("%d entries", n)
	}
}

// 16.12: a snapshot that is told of.
func TestSnapshot(t *testing.T) {
	state := "3.2 s2.1 c4 [3.1 4.2 5.2=a 6.3=b]"
	for _, x := range []struct{ m, want string }{
		{"2 snap t3 1.1 c9", "F2 3.2 c4 n7 > 2:appreply t3 4.0"},
		{"2 snap t3 4.2 c9", "F2 3.2 c4 n7 > 2:appreply t3 4.0"},
		{"2 snap t3 4.3 c9", "F2 3.2 c4 n7 > 2:appreply t3 4.0"},
		{"2 snap t3 5.2 c9", "F2 3.2 c5 n7 > 2:appreply t3 5.0"},
		{"2 snap t3 6.3 c9", "F2 3.2 c6 n7 > 2:appreply t3 6.0"},
		{"2 snap t3 5.3 c9", "F2 3.2 c4 n7 > 2:appreply t3 5.0 h4 no"},
		{"2 snap t3 7.3 c9", "F2 3.2 c4 n7 > 2:appreply t3 7.0 h4 no"},
		{"3 snap t4 7.3 c9", "F3 4.0 c4 w7[] > 3:appreply t4 7.0 h4 no"},
	} {
		b := from(t, state)
		b.plays([2]string{x.m, x.want})
	}
	b := from(t, state)
	b.ticks(3)
	b.do("2 snap t3 7.3 d2")
	if got := b.wait(); got != 12 {
		t.Errorf("%d ticks", got)
	}
	b.plays([2]string{"2 snap t3 7.3", "F2 3.2 c4 n7 > 2:appreply t3 7.0 h4 no"})
}

// 16.12: a hand-over is taken by a follower of the one who hands over, of this term.
func TestTakeOver(t *testing.T) {
	b := from(t, "3.2 [1.1]")
	b.plays([][2]string{
		{"2 hand t3", "F0 3.2 c0 n2"},
		{"2 app t3 1.1", ".."},
		{"3 hand t3", "F2 3.2 c0 n2"},
		{"2 hand t2", "F2 3.2 c0 n2"},
		{"2 hand t3 d4", "C0 4.1 c0 w2[] > 2:vote t4 1.1 h1 > 3:vote t4 1.1 h1"},
		{"2 hand t4", "C0 4.1 c0 n2"},
	}...)
	if got := b.wait(); got != 14 {
		t.Errorf("%d ticks", got)
	}
	b.plays([2]string{"2 hand t4", "P0 4.1 c0 n2"})
	b = from(t, "3.2 [1.1]")
	b.do("2 app t3 1.1")
	b.plays([2]string{"2 hand t4", "F0 4.0 c0 w2[]"}) // its leader is another term's
	b = leader(t, 3)
	b.plays([2]string{"2 hand t1", "L1 1.1 c0 n2"})
}

// 16.12: a node that was begun is not forced any more when it stands the next time.
func TestForcedOnce(t *testing.T) {
	b := from(t, "3.2 [1.1]")
	b.do("2 app t3 1.1", "2 hand t3")
	b.wait()
	b.plays([2]string{"3 prereply t5", "C0 5.1 c0 w2[] > 2:vote t5 1.1 > 3:vote t5 1.1"})
}

// 16.13: what a leader does with a reply.
func TestAppendReply(t *testing.T) {
	b := open(t, three(), parseState("3.0 s2.1 c3 [3.1 4.2 5.3 6.3 7.3 8.3 9.3]"), 0)
	b.elect()
	b.plays([][2]string{
		{"2 appreply t4 8.0 no h6", "L1 4.1 c3 n11"},                                           // its Index is not next - 1
		{"2 appreply t4 9.0 no h6", "L1 4.1 c3 n11 > 2:app t4 6.3 c3 [7.3 8.3 9.3 10.4]"},      // next is 7
		{"2 appreply t4 9.0 no h6", "L1 4.1 c3 n11"},                                           // said twice
		{"2 appreply t4 6.0 no h2", "L1 4.1 c3 n11 > 2:app t4 2.1 c3 [3.1 4.2 5.3 6.3]"},       // next is 3
		{"2 appreply t4 2.0 no h1", "L1 4.1 c3 n11 s2 > 2:snap t4 2.1 c3"},                     // next is 2
		{"2 appreply t4 1.0 no", "L1 4.1 c3 n11 s2 > 2:snap t4 2.1 c3"},                        // next is 1
		{"2 appreply t4 2.0 no", "L1 4.1 c3 n11"},                                              // of the snapshot
		{"2 appreply t4 no", "L1 4.1 c3 n11 s2 > 2:snap t4 2.1 c3"},                            // both are 0, as next - 1 is
		{"2 appreply t4 3.0", "L1 4.1 c3 n11 > 2:app t4 3.1 c3 [4.2 5.3 6.3 7.3]"},             // match is 3
		{"2 appreply t4 3.0", "L1 4.1 c3 n11"},                                                 // not above match
		{"2 appreply t4 2.0", "L1 4.1 c3 n11"},                                                 // nor this
		{"2 appreply t4", "L1 4.1 c3 n11"},                                                     // nor this
		{"2 appreply t4 3.0 no h1", "L1 4.1 c3 n11 > 2:app t4 3.1 c3 [4.2 5.3 6.3 7.3]"},       // never below match
		{"2 appreply t4 9.0", "L1 4.1 c3 n11 > 2:app t4 9.3 c3 [10.4]"},                        // nothing of this term
		{"3 appreply t4 9.0", "L1 4.1 c3 n11 > 3:app t4 9.3 c3 [10.4]"},                        // still nothing
		{"3 appreply t4 10.0", "L1 4.1 c10 n11 > 2:app t4 9.3 c10 [10.4] > 3:app t4 10.4 c10"}, // Commit rose
		{"2 appreply t4 10.0", "L1 4.1 c10 n11"},                                               // Commit did not, and there is no more
		{"2 appreply t4 10.0 no h3", "L1 4.1 c10 n11 > 2:app t4 10.4 c10"},                     // next stays behind match
		{"propose x", "L1 4.1 c10 w11[11.4=x] p11-11 > 2:app t4 10.4 c10 [11.4=x] > 3:app t4 10.4 c10 [11.4=x]"},
	}...)
	if p := b.n.Progress(); !same(p, [][3]int{{2, 10, 11}, {3, 10, 11}}) {
		t.Errorf("%v", p)
	}
	// Of nobody else.
	b = from(t, "3.0 [1.1]")
	b.plays([2]string{"2 appreply t3 1.0", "F0 3.0 c0 n2"}, [2]string{"2 appreply t3 9.0 no h1", "F0 3.0 c0 n2"})
	b.wait()
	b.plays([2]string{"2 appreply t3 1.0", "P0 3.0 c0 n2"}, [2]string{"2 prereply t4", ".."}, [2]string{"2 appreply t4 1.0", "C0 4.1 c0 n2"})
}

// 16.14: all that New would go on from, in every role; and how far a leader's peers are.
func TestStateAndProgress(t *testing.T) {
	b := from(t, "3.2 s2.1 c4 [3.1 4.2 5.2=a 6.3=b]")
	check := func(progress ...[3]int) {
		t.Helper()
		s := b.n.State()
		open(t, three(), s, 0).is(stateText(s))
		if p := b.n.Progress(); !same(p, progress) {
			t.Fatalf("%v, want %v", p, progress)
		}
	}
	check()
	b.is("3.2 s2.1 c4 [3.1 4.2 5.2=a 6.3=b]")
	b.wait()
	check()
	b.do("2 prereply t4")
	check()
	b.is("4.1 s2.1 c4 [3.1 4.2 5.2=a 6.3=b]")
	b.do("2 votereply t4")
	check([3]int{2, 0, 7}, [3]int{3, 0, 7})
	b.is("4.1 s2.1 c4 [3.1 4.2 5.2=a 6.3=b 7.4]")
	b.do("3 appreply t4 6.0 no h4", "2 appreply t4 7.0", "compact 6")
	check([3]int{2, 7, 8}, [3]int{3, 0, 5})
	b.is("4.1 s6.3 c7 [7.4]")
	b.do("3 appreply t4 6.0")
	check([3]int{2, 7, 8}, [3]int{3, 6, 7})
	b.do("3 appreply t5")
	check()
	b.is("5.0 s6.3 c7 [7.4]")
	if p := leader(t, 1).n.Progress(); len(p) != 0 {
		t.Errorf("alone: %v", p)
	}
	if p := leader(t, 7).n.Progress(); len(p) != 6 || p[0] != [3]int{2, 0, 1} || p[5] != [3]int{7, 0, 1} {
		t.Errorf("of seven: %v", p)
	}
}
