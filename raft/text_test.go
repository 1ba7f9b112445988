package raft_test

import (
	"fmt"
	"slices"
	"strconv"
	"strings"
	"testing"

	"strata/api"
	"strata/raft"
)

// Events, states and what is told stand in the tests as short texts, so that a test reads as a table.
//
// An entry: `6.3=x` has the index 6, the term 3 and the Data x; entries: `[5.1 6.3=x]`.
// A state: `3.2 s4.1 c5 [5.1 6.3]`: Term 3, Vote 2, SnapIndex 4 with SnapTerm 1, Commit 5, the log.
// A message: `2 app t3 5.1 c5 [6.3=x]`: of peer 2, Term 3, Index 5 with LogTerm 1, Commit 5; h7: Hint 7; no: Reject; d4: the event's Draw.
// Other events: `tick 5`, `propose x y`, `compact 3`, `installed 7.3`, `hand 2`, `gone 2`.
// What is told: `F2 3.0 c5 w6[6.3=x] > 2:appreply t3 6.0`: a follower of 2, Term 3, Vote 0, Commit 5, Write from 6 on (n6: no Write), and the messages; p6-7: First and Last; s2,3: Snaps.

func kindNames() []string {
	return []string{"", "pre", "prereply", "vote", "votereply", "app", "appreply", "snap", "hand"}
}

func num(s string) int {
	n, err := strconv.Atoi(s)
	if err != nil {
		panic("no number: " + s)
	}
	return n
}

func pair(s string) (int, int) {
	a, b, _ := strings.Cut(s, ".")
	return num(a), num(b)
}

func parseEntries(words []string) []api.LogEntry {
	var l []api.LogEntry
	for _, w := range words {
		place, data, _ := strings.Cut(strings.Trim(w, "[]"), "=")
		if place == "" {
			continue
		}
		e := api.LogEntry{Data: []byte(data)}
		e.Index, e.Term = pair(place)
		l = append(l, e)
	}
	return l
}

func parseState(s string) api.RaftState {
	var x api.RaftState
	for i, w := range strings.Fields(s) {
		switch {
		case i == 0:
			x.Hard.Term, x.Hard.Vote = pair(w)
		case w[0] == 's':
			x.SnapIndex, x.SnapTerm = pair(w[1:])
		case w[0] == 'c':
			x.Commit = num(w[1:])
		default:
			x.Log = append(x.Log, parseEntries([]string{w})...)
		}
	}
	return x
}

func parseMessage(to int, words []string) api.Event {
	m := api.Msg{From: num(words[0]), To: to, Kind: slices.Index(kindNames(), words[1])}
	e := api.Event{Kind: api.EMsg}
	for i, w := range words[2:] {
		if w[0] == '[' {
			m.Entries = parseEntries(words[2+i:])
			break
		}
		switch {
		case w == "no":
			m.Reject = true
		case w[0] == 't':
			m.Term = num(w[1:])
		case w[0] == 'c':
			m.Commit = num(w[1:])
		case w[0] == 'h':
			m.Hint = num(w[1:])
		case w[0] == 'd':
			e.Draw = num(w[1:])
		default:
			m.Index, m.LogTerm = pair(w)
		}
	}
	e.Msg = m
	return e
}

func parseEvent(to int, s string) api.Event {
	words := strings.Fields(s)
	at := func() string { return words[1] }
	switch words[0] {
	case "tick":
		e := api.Event{Kind: api.ETick}
		if len(words) > 1 {
			e.Draw = num(at())
		}
		return e
	case "propose":
		e := api.Event{Kind: api.EPropose}
		for _, w := range words[1:] {
			e.Data = append(e.Data, []byte(w))
		}
		return e
	case "compact":
		return api.Event{Kind: api.ECompact, Index: num(at())}
	case "installed":
		index, term := pair(at())
		return api.Event{Kind: api.EInstalled, Index: index, Term: term}
	case "hand":
		return api.Event{Kind: api.EHandOver, Peer: num(at())}
	case "gone":
		return api.Event{Kind: api.EUnreachable, Peer: num(at())}
	}
	return parseMessage(to, words)
}

func entriesText(l []api.LogEntry) string {
	var out []string
	for _, e := range l {
		s := fmt.Sprintf("%d.%d", e.Index, e.Term)
		if len(e.Data) > 0 {
			s += "=" + string(e.Data)
		}
		out = append(out, s)
	}
	return "[" + strings.Join(out, " ") + "]"
}

func messageText(m api.Msg) string {
	s := fmt.Sprintf("%d:%s t%d", m.To, kindNames()[m.Kind], m.Term)
	if m.Index != 0 || m.LogTerm != 0 {
		s += fmt.Sprintf(" %d.%d", m.Index, m.LogTerm)
	}
	if m.Commit != 0 {
		s += fmt.Sprintf(" c%d", m.Commit)
	}
	if m.Hint != 0 {
		s += fmt.Sprintf(" h%d", m.Hint)
	}
	if m.Reject {
		s += " no"
	}
	if len(m.Entries) > 0 {
		s += " " + entriesText(m.Entries)
	}
	return s
}

func readyText(r api.Ready) string {
	s := fmt.Sprintf("%c%d %d.%d c%d", "?FPCL"[r.Role], r.Leader, r.Hard.Term, r.Hard.Vote, r.Commit)
	if r.Write {
		s += fmt.Sprintf(" w%d%s", r.From, entriesText(r.Entries))
	} else {
		s += fmt.Sprintf(" n%d", r.From)
		if len(r.Entries) > 0 {
			s += entriesText(r.Entries)
		}
	}
	if r.First != 0 || r.Last != 0 {
		s += fmt.Sprintf(" p%d-%d", r.First, r.Last)
	}
	for i, p := range r.Snaps {
		s += string(" ,"[min(i, 1)]) + "s"[min(i, 1):] + strconv.Itoa(p)
	}
	for _, m := range r.Msgs {
		s += " > " + messageText(m)
	}
	return s
}

func stateText(s api.RaftState) string {
	return fmt.Sprintf("%d.%d s%d.%d c%d %s", s.Hard.Term, s.Hard.Vote, s.SnapIndex, s.SnapTerm, s.Commit, entriesText(s.Log))
}

// three: as in the chapter's examples.
func three() api.RaftConfig {
	return api.RaftConfig{ID: 1, Peers: []int{1, 2, 3}, Least: 10, Most: 20, Beat: 2, Batch: 4}
}

// among is node 1 of so many.
func among(peers int) api.RaftConfig {
	c := three()
	c.Peers = nil
	for p := range peers {
		c.Peers = append(c.Peers, p+1)
	}
	return c
}

// bench is a node that is played with.
type bench struct {
	testing.TB
	id int
	n  *raft.Node
}

func open(t testing.TB, c api.RaftConfig, s api.RaftState, draw int) *bench {
	t.Helper()
	n, err := raft.New(c, s, draw)
	if n == nil || err != api.OK {
		t.Fatalf("New(%+v, %s): %v, %d", c, stateText(s), n, err)
	}
	return &bench{TB: t, id: c.ID, n: n}
}

// from is node 1 of three that goes on from a state, with the least timeout.
func from(t testing.TB, state string) *bench {
	t.Helper()
	return open(t, three(), parseState(state), 0)
}

func (b *bench) take(e api.Event) api.Ready {
	b.Helper()
	r, err := b.n.Step(e)
	if err != api.OK {
		b.Fatalf("%+v: %d", e, err)
	}
	for _, m := range r.Msgs {
		if m.From != b.id {
			b.Fatalf("%+v: a message From %d", e, m.From)
		}
	}
	return r
}

// do takes events, one by one: what the last one tells.
func (b *bench) do(events ...string) api.Ready {
	b.Helper()
	var r api.Ready
	for _, e := range events {
		r = b.take(parseEvent(b.id, e))
	}
	return r
}

// refuses: the event answers that error and nothing beside it, and nothing has changed.
func (b *bench) refuses(e api.Event, want api.Errno) {
	b.Helper()
	state, progress := b.n.State(), b.n.Progress()
	r, err := b.n.Step(e)
	if err != want || !same(r, api.Ready{}) {
		b.Errorf("%+v: %d, %+v, want %d", e, err, r, want)
	}
	if !same(b.n.State(), state) || !same(b.n.Progress(), progress) {
		b.Errorf("%+v has changed the node", e)
	}
}

// plays goes through a table of events and what they tell; `error 161` for a refusal; `..` for anything.
func (b *bench) plays(rows ...[2]string) {
	b.Helper()
	for i, row := range rows {
		e := parseEvent(b.id, row[0])
		if code, is := strings.CutPrefix(row[1], "error "); is {
			b.refuses(e, api.Errno(num(code)))
			continue
		}
		got := readyText(b.take(e))
		if got != row[1] && row[1] != ".." {
			b.Fatalf("row %d, %s:\n got %s\nwant %s", i, row[0], got, row[1])
		}
	}
}

func (b *bench) is(state string) {
	b.Helper()
	if got, want := stateText(b.n.State()), stateText(parseState(state)); got != want {
		b.Fatalf("the state is %s, want %s", got, want)
	}
}

// wait is how many ticks it takes until the node begins; it is no leader, and may begin.
func (b *bench) wait() int {
	b.Helper()
	for n := 1; n <= api.MaxTimeout; n++ {
		if r := b.do("tick"); len(r.Msgs) > 0 {
			return n
		}
	}
	b.Fatal("it never begins")
	return 0
}

// leader is node 1 of so many peers, which leads the term 1 behind its first entry.
func leader(t testing.TB, peers int) *bench {
	t.Helper()
	b := open(t, among(peers), api.RaftState{}, 0)
	b.elect()
	return b
}

// elect ticks a node until it begins, and has all others grant until it leads.
func (b *bench) elect() api.Ready {
	b.Helper()
	r := b.do("tick")
	for n := 0; r.Role == api.RFollower; n++ {
		if n > api.MaxTimeout {
			b.Fatal("it never begins")
		}
		r = b.do("tick")
	}
	for r.Role != api.RLeader {
		if len(r.Msgs) == 0 {
			b.Fatalf("it does not come to lead: %s", readyText(r))
		}
		said := r.Msgs
		for _, m := range said {
			reply := api.Msg{Kind: m.Kind + 1, From: m.To, To: m.From, Term: m.Term}
			if r = b.take(api.Event{Kind: api.EMsg, Msg: reply}); r.Role == api.RLeader || len(r.Msgs) > 0 {
				break
			}
		}
	}
	return r
}
