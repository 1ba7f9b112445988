package raft_test

import (
	"bytes"
	"maps"
	"reflect"
	"slices"
	"sort"

	"strata/api"
)

// same: nil and empty lists are.
func same[T any](a, b T) bool { return equal(reflect.ValueOf(a), reflect.ValueOf(b)) }

func equal(v, w reflect.Value) bool {
	switch v.Kind() {
	case reflect.Slice, reflect.Array:
		if v.Len() != w.Len() {
			return false
		}
		for i := range v.Len() {
			if !equal(v.Index(i), w.Index(i)) {
				return false
			}
		}
		return true
	case reflect.Struct:
		for i := range v.NumField() {
			if !equal(v.Field(i), w.Field(i)) {
				return false
			}
		}
		return true
	}
	return v.Equal(w)
}

// model is the chapter's words told a second time, plainly: entries by their index, and what is to be written found by holding two logs against each other.
type model struct {
	c                        api.RaftConfig
	term, vote               int
	snap, snapTerm           int
	entries                  map[int]api.LogEntry
	commit, role, leader     int
	elapsed, timeout         int
	match, next              map[int]int
	heard, granted, refused  map[int]bool
	beat, heir               int
	draw                     int // of the event that is under way
	said                     []api.Msg
	snaps                    []int
	first, lastOne, fromWord int
}

func newModel(c api.RaftConfig, s api.RaftState, draw int) *model {
	m := &model{c: c, term: s.Hard.Term, vote: s.Hard.Vote, snap: s.SnapIndex, snapTerm: s.SnapTerm, commit: s.Commit, role: api.RFollower, entries: map[int]api.LogEntry{}, draw: draw}
	for _, e := range s.Log {
		m.entries[e.Index] = e
	}
	m.timeAnew()
	return m
}

func (m *model) timeAnew() {
	m.elapsed = 0
	n := m.c.Most - m.c.Least + 1
	d := m.draw % n
	if d < 0 {
		d += n
	}
	m.timeout = m.c.Least + d
}

func (m *model) last() int { return m.snap + len(m.entries) }

func (m *model) termOf(index int) int {
	if index == 0 {
		return 0
	}
	if index == m.snap {
		return m.snapTerm
	}
	return m.entries[index].Term
}

func (m *model) others() []int {
	var l []int
	for _, p := range m.c.Peers {
		if p != m.c.ID {
			l = append(l, p)
		}
	}
	return l
}

func (m *model) most(n int) bool { return n > len(m.c.Peers)/2 }

func (m *model) state() api.RaftState {
	s := api.RaftState{Hard: api.Hard{Term: m.term, Vote: m.vote}, SnapIndex: m.snap, SnapTerm: m.snapTerm, Commit: m.commit}
	for i := m.snap + 1; i <= m.last(); i++ {
		s.Log = append(s.Log, m.entries[i])
	}
	return s
}

func (m *model) progress() [][3]int {
	var out [][3]int
	if m.role == api.RLeader {
		for _, p := range m.others() {
			out = append(out, [3]int{p, m.match[p], m.next[p]})
		}
	}
	return out
}

func (m *model) step(e api.Event) (api.Ready, api.Errno) {
	m.draw, m.said, m.snaps, m.first, m.lastOne, m.fromWord = e.Draw, nil, nil, 0, 0, 0
	hard, was := api.Hard{Term: m.term, Vote: m.vote}, maps.Clone(m.entries)
	if err := m.event(e); err != api.OK {
		return api.Ready{}, err
	}
	r := api.Ready{Hard: api.Hard{Term: m.term, Vote: m.vote}, Msgs: m.said, Snaps: m.snaps, Commit: m.commit, Role: m.role, Leader: m.leader, First: m.first, Last: m.lastOne}
	r.From = m.last() + 1
	for i := m.last(); i > m.snap; i-- {
		if e, is := was[i]; !is || e.Term != m.entries[i].Term || !bytes.Equal(e.Data, m.entries[i].Data) {
			r.From = i
		}
	}
	r.Write = r.From <= m.last() || r.Hard != hard
	if m.fromWord > 0 {
		r.From, r.Write = m.fromWord, true
	}
	for i := r.From; i <= m.last(); i++ {
		r.Entries = append(r.Entries, m.entries[i])
	}
	return r, api.OK
}

func (m *model) event(e api.Event) api.Errno {
	leads := m.role == api.RLeader
	switch e.Kind {
	case api.ETick:
		m.tick()
	case api.EMsg:
		if !m.mayCome(e.Msg) {
			return api.ErrEvent
		}
		m.hear(e.Msg)
	case api.EPropose:
		k := len(e.Data)
		if k == 0 || k > api.MaxBatch {
			return api.ErrArg
		}
		if !leads {
			return api.ErrNotLeader
		}
		if m.heir != 0 {
			return api.ErrHandOver
		}
		if m.last()+k > api.MaxIndex {
			return api.ErrLastIndex
		}
		if len(m.entries)+k > api.MaxLog {
			return api.ErrLong
		}
		m.first = m.last() + 1
		for _, d := range e.Data {
			m.add(d)
		}
		m.lastOne = m.last()
		m.count()
		m.sendAll()
	case api.ECompact:
		if e.Index <= m.snap || e.Index > m.commit {
			return api.ErrCut
		}
		m.cut(e.Index, m.termOf(e.Index))
	case api.EInstalled:
		if e.Index < 1 || e.Index > api.MaxIndex || e.Term < 1 || e.Term > m.term {
			return api.ErrEvent
		}
		if e.Index <= m.commit {
			return api.ErrCut
		}
		if leads {
			return api.ErrEvent
		}
		if x, is := m.entries[e.Index]; !is || x.Term != e.Term {
			m.entries = map[int]api.LogEntry{}
		}
		m.cut(e.Index, e.Term)
		m.commit, m.fromWord = e.Index, e.Index+1
	case api.EHandOver:
		if !slices.Contains(m.others(), e.Peer) {
			return api.ErrEvent
		}
		if !leads {
			return api.ErrNotLeader
		}
		m.heir, m.elapsed = e.Peer, 0
		if m.match[e.Peer] == m.last() {
			m.tell(e.Peer, api.Msg{Kind: api.MHandOver})
		} else {
			m.send(e.Peer)
		}
	case api.EUnreachable:
		if !slices.Contains(m.others(), e.Peer) {
			return api.ErrEvent
		}
		if leads {
			m.heard[e.Peer] = false
		}
	default:
		return api.ErrEvent
	}
	return api.OK
}

func (m *model) add(data []byte) {
	i := m.last() + 1
	m.entries[i] = api.LogEntry{Index: i, Term: m.term, Data: data}
}

func (m *model) cut(index, term int) {
	for i := range m.entries {
		if i <= index {
			delete(m.entries, i)
		}
	}
	m.snap, m.snapTerm = index, term
}

func number(set map[int]bool) int {
	n := 0
	for _, is := range set {
		if is {
			n++
		}
	}
	return n
}

func (m *model) tell(to int, x api.Msg) {
	x.From, x.To = m.c.ID, to
	if x.Kind != api.MPreVote && !(x.Kind == api.MPreReply && !x.Reject) {
		x.Term = m.term
	}
	m.said = append(m.said, x)
}

func (m *model) follow(term, leader int) {
	if term > m.term {
		m.term, m.vote = term, 0
	}
	m.role, m.leader, m.heir = api.RFollower, leader, 0
	m.timeAnew()
}

func (m *model) atAnEnd() bool {
	return m.term == api.MaxTerm || m.last() == api.MaxIndex || len(m.entries) == api.MaxLog
}

func (m *model) begin() {
	m.timeAnew()
	if m.atAnEnd() {
		return
	}
	m.role, m.leader, m.granted = api.RPre, 0, map[int]bool{m.c.ID: true}
	if m.most(1) {
		m.stand(false)
		return
	}
	for _, p := range m.others() {
		m.tell(p, api.Msg{Kind: api.MPreVote, Term: m.term + 1, Index: m.last(), LogTerm: m.termOf(m.last())})
	}
}

func (m *model) stand(forced bool) {
	m.term++
	m.role, m.vote, m.leader = api.RCandidate, m.c.ID, 0
	m.timeAnew()
	m.granted, m.refused = map[int]bool{m.c.ID: true}, map[int]bool{}
	if m.most(1) {
		m.lead()
		return
	}
	hint := 0
	if forced {
		hint = 1
	}
	for _, p := range m.others() {
		m.tell(p, api.Msg{Kind: api.MVote, Index: m.last(), LogTerm: m.termOf(m.last()), Hint: hint})
	}
}

func (m *model) lead() {
	m.role, m.leader, m.elapsed, m.beat, m.heir = api.RLeader, m.c.ID, 0, 0, 0
	m.match, m.next, m.heard = map[int]int{}, map[int]int{}, map[int]bool{}
	for _, p := range m.others() {
		m.next[p] = m.last() + 1
	}
	if m.last() != api.MaxIndex {
		m.add(nil)
	}
	m.count()
	m.sendAll()
}

func (m *model) count() bool {
	for i := m.last(); i > m.commit; i-- {
		have := 1
		for _, p := range m.others() {
			if m.match[p] >= i {
				have++
			}
		}
		if m.most(have) && m.termOf(i) == m.term {
			m.commit = i
			return true
		}
	}
	return false
}

func (m *model) send(p int) {
	if m.next[p] <= m.snap {
		m.tell(p, api.Msg{Kind: api.MSnapshot, Index: m.snap, LogTerm: m.snapTerm, Commit: m.commit})
		m.snaps = append(m.snaps, p)
		sort.Ints(m.snaps)
		return
	}
	x := api.Msg{Kind: api.MAppend, Index: m.next[p] - 1, LogTerm: m.termOf(m.next[p] - 1), Commit: m.commit}
	for i := m.next[p]; i <= m.last() && len(x.Entries) < m.c.Batch; i++ {
		x.Entries = append(x.Entries, m.entries[i])
	}
	m.tell(p, x)
}

func (m *model) sendAll() {
	for _, p := range m.others() {
		m.send(p)
	}
}

func (m *model) tick() {
	m.elapsed++
	if m.role != api.RLeader {
		if m.elapsed >= m.timeout {
			m.begin()
		}
		return
	}
	m.beat++
	if m.elapsed >= m.c.Most {
		m.elapsed, m.heir = 0, 0
		if !m.most(1 + number(m.heard)) {
			m.follow(m.term, 0)
			return
		}
		m.heard = map[int]bool{}
	}
	if m.beat >= m.c.Beat {
		m.beat = 0
		m.sendAll()
	}
}

func (m *model) mayCome(x api.Msg) bool {
	out := func(n, least, most int) bool { return n < least || n > most }
	if out(x.Kind, 1, 8) || !slices.Contains(m.others(), x.From) || x.To != m.c.ID || out(x.Term, 1, api.MaxTerm) || out(x.Index, 0, api.MaxIndex) || out(x.Commit, 0, api.MaxIndex) || out(x.Hint, 0, api.MaxIndex) || out(x.LogTerm, 0, x.Term) {
		return false
	}
	placed := slices.Contains([]int{api.MPreVote, api.MVote, api.MAppend, api.MSnapshot}, x.Kind)
	if placed && (x.LogTerm == 0 && x.Index != 0 || x.LogTerm != 0 && x.Index == 0) {
		return false
	}
	if len(x.Entries) > 0 && x.Kind != api.MAppend || len(x.Entries) > api.MaxBatch {
		return false
	}
	for i, e := range x.Entries {
		ahead := x.LogTerm
		if i > 0 {
			ahead = x.Entries[i-1].Term
		}
		if e.Index != x.Index+1+i || e.Index > api.MaxIndex || e.Term < ahead || e.Term < 1 || e.Term > x.Term {
			return false
		}
	}
	leads := m.role == api.RLeader
	switch x.Kind {
	case api.MSnapshot:
		return x.Index != 0 && !(leads && x.Term == m.term)
	case api.MAppend:
		return !(leads && x.Term == m.term) && !(x.Term >= m.term && x.Index == m.commit && x.LogTerm != m.termOf(m.commit))
	case api.MAppendReply:
		if x.Reject && x.Hint >= x.Index && !(x.Hint == 0 && x.Index == 0) {
			return false
		}
		return !(leads && x.Term == m.term && !x.Reject && x.Index > m.last())
	}
	return true
}

func (m *model) hear(x api.Msg) {
	has := m.role == api.RLeader || m.leader != 0 && m.elapsed < m.c.Least
	if (x.Kind == api.MPreVote || x.Kind == api.MVote && x.Hint == 0) && x.Term > m.term && has {
		return
	}
	if x.Term > m.term {
		if x.Kind == api.MAppend || x.Kind == api.MSnapshot {
			m.follow(x.Term, x.From)
		} else if x.Kind != api.MPreVote && (x.Kind != api.MPreReply || x.Reject) {
			m.follow(x.Term, 0)
		}
	} else if x.Term < m.term {
		switch x.Kind {
		case api.MAppend, api.MSnapshot:
			m.tell(x.From, api.Msg{Kind: api.MAppendReply, Reject: true, Index: x.Index})
		case api.MPreVote:
			m.tell(x.From, api.Msg{Kind: api.MPreReply, Reject: true})
		case api.MVote:
			m.tell(x.From, api.Msg{Kind: api.MVoteReply, Reject: true})
		}
		return
	}
	m.byKind(x)
}

func (m *model) byKind(x api.Msg) {
	good := x.LogTerm > m.termOf(m.last()) || x.LogTerm == m.termOf(m.last()) && x.Index >= m.last()
	switch x.Kind {
	case api.MPreVote:
		if x.Term > m.term && good {
			m.tell(x.From, api.Msg{Kind: api.MPreReply, Term: x.Term})
		} else {
			m.tell(x.From, api.Msg{Kind: api.MPreReply, Reject: true})
		}
	case api.MPreReply:
		if m.role == api.RPre && !x.Reject && x.Term == m.term+1 {
			m.granted[x.From] = true
			if m.most(number(m.granted)) {
				m.stand(false)
			}
		}
	case api.MVote:
		if good && (m.vote == x.From || m.vote == 0 && m.leader == 0) {
			m.vote = x.From
			m.timeAnew()
			m.tell(x.From, api.Msg{Kind: api.MVoteReply})
		} else {
			m.tell(x.From, api.Msg{Kind: api.MVoteReply, Reject: true})
		}
	case api.MVoteReply:
		m.voteReply(x)
	case api.MAppend:
		m.follow(m.term, x.From)
		m.append(x)
	case api.MSnapshot:
		m.follow(m.term, x.From)
		if m.commit >= x.Index {
			m.tell(x.From, api.Msg{Kind: api.MAppendReply, Index: m.commit})
		} else if e, is := m.entries[x.Index]; is && e.Term == x.LogTerm {
			m.commit = x.Index
			m.tell(x.From, api.Msg{Kind: api.MAppendReply, Index: x.Index})
		} else {
			m.tell(x.From, api.Msg{Kind: api.MAppendReply, Reject: true, Index: x.Index, Hint: m.commit})
		}
	case api.MHandOver:
		if m.role == api.RFollower && m.leader == x.From && !m.atAnEnd() {
			m.stand(true)
		}
	case api.MAppendReply:
		if m.role == api.RLeader {
			m.appendReply(x)
		}
	}
}

func (m *model) voteReply(x api.Msg) {
	if m.role != api.RCandidate {
		return
	}
	if !x.Reject {
		m.granted[x.From] = true
		delete(m.refused, x.From)
		if m.most(number(m.granted)) {
			m.lead()
		}
		return
	}
	if !m.granted[x.From] {
		m.refused[x.From] = true
	}
	if m.most(number(m.refused)) {
		m.follow(m.term, 0)
	}
}

func (m *model) append(x api.Msg) {
	reply := func(index int) { m.tell(x.From, api.Msg{Kind: api.MAppendReply, Index: index}) }
	reject := func(hint int) {
		m.tell(x.From, api.Msg{Kind: api.MAppendReply, Reject: true, Index: x.Index, Hint: hint})
	}
	if x.Index < m.commit {
		reply(m.commit)
		return
	}
	if x.Index > m.last() {
		reject(m.last())
		return
	}
	if x.LogTerm != m.termOf(x.Index) {
		reject(x.Index - 1)
		return
	}
	i := x.Index
	fresh := false
	for _, e := range x.Entries {
		if had, is := m.entries[e.Index]; !fresh && is && had.Term == e.Term {
			i = e.Index
			continue
		}
		if !fresh {
			fresh = true
			for k := m.last(); k >= e.Index; k-- {
				delete(m.entries, k)
			}
		}
		if len(m.entries) < api.MaxLog {
			m.entries[e.Index] = e
			i = e.Index
		}
	}
	if c := min(x.Commit, i); c > m.commit {
		m.commit = c
	}
	reply(i)
}

func (m *model) appendReply(x api.Msg) {
	p := x.From
	m.heard[p] = true
	if x.Reject {
		if x.Index == m.next[p]-1 {
			m.next[p] = min(max(m.match[p], x.Hint)+1, m.last()+1)
			m.send(p)
		}
	} else if x.Index > m.match[p] {
		m.match[p], m.next[p] = x.Index, x.Index+1
		if m.count() {
			m.sendAll()
		} else if m.next[p] <= m.last() {
			m.send(p)
		}
	}
	if p == m.heir && m.match[p] == m.last() {
		m.tell(p, api.Msg{Kind: api.MHandOver})
	}
}
