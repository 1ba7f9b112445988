package raft

import "strata/api"

// step is an event that a node takes, with what is to be told behind it.
type step struct {
	*Node
	draw    int
	msgs    []api.Msg
	snaps   []int
	changed int // from which index on the log is another; 0: it is not
	first   int
	last    int
}

func (s *step) take(e api.Event) api.Errno {
	switch e.Kind {
	case api.ETick:
		s.tick()
		return api.OK
	case api.EMsg:
		return s.hear(e.Msg)
	case api.EPropose:
		return s.propose(e.Data)
	case api.ECompact:
		return s.compact(e.Index)
	case api.EInstalled:
		return s.installed(e.Index, e.Term)
	case api.EHandOver:
		return s.handOver(e.Peer)
	case api.EUnreachable:
		return s.unreachable(e.Peer)
	}
	return api.ErrEvent
}

// ready is what is told; ahead: Hard as it was.
func (s *step) ready(ahead api.Hard) api.Ready {
	from := s.changed
	if from == 0 {
		from = s.log.last() + 1
	}
	return api.Ready{
		Hard:    s.hard,
		Write:   s.changed > 0 || s.hard != ahead,
		From:    from,
		Entries: s.log.from(from, api.MaxLog),
		Msgs:    s.msgs,
		Commit:  s.commit,
		Snaps:   s.snaps,
		Role:    s.role,
		Leader:  s.leader,
		First:   s.first,
		Last:    s.last,
	}
}

// say sends a message; one without a Term has this node's.
func (s *step) say(m api.Msg) {
	m.From = s.config.ID
	if m.Term == 0 {
		m.Term = s.hard.Term
	}
	s.msgs = append(s.msgs, m)
}

func (s *step) sayToOthers(m api.Msg) {
	for _, peer := range s.others() {
		m.To = peer
		s.say(m)
	}
}

// join puts copies of entries behind the log.
func (s *step) join(l ...api.LogEntry) {
	if len(l) > 0 {
		s.changed = l[0].Index
		s.log.entries = append(s.log.entries, copies(l)...)
	}
}

func (s *step) tick() {
	s.elapsed++
	switch {
	case s.role == api.RLeader:
		s.tickLeader()
	case s.elapsed >= s.timeout:
		s.begin()
	}
}

func (s *step) tickLeader() {
	s.beat++
	if s.elapsed >= s.config.Most {
		s.elapsed, s.heir = 0, 0
		if !s.isMajority(len(s.heard) + 1) {
			s.follow(s.hard.Term, 0)
			return
		}
		clear(s.heard)
	}
	if s.beat >= s.config.Beat {
		s.beat = 0
		s.sendToAll()
	}
}

func (s *step) propose(data [][]byte) api.Errno {
	last := s.log.last()
	switch {
	case !isWithin(len(data), 1, api.MaxBatch):
		return api.ErrArg
	case s.role != api.RLeader:
		return api.ErrNotLeader
	case s.heir != 0:
		return api.ErrHandOver
	case last+len(data) > api.MaxIndex:
		return api.ErrLastIndex
	case len(data) > s.log.room():
		return api.ErrLong
	}
	var l []api.LogEntry
	for i, d := range data {
		l = append(l, api.LogEntry{Index: last + 1 + i, Term: s.hard.Term, Data: d})
	}
	s.join(l...)
	s.first, s.last = last+1, last+len(data)
	s.count()
	s.sendToAll()
	return api.OK
}

func (s *step) compact(index int) api.Errno {
	if index <= s.log.cut || index > s.commit {
		return api.ErrCut
	}
	s.log.cutTo(index)
	return api.OK
}

func (s *step) installed(index, term int) api.Errno {
	switch {
	case !isWithin(index, 1, api.MaxIndex), !isWithin(term, 1, s.hard.Term):
		return api.ErrEvent
	case index <= s.commit:
		return api.ErrCut
	case s.role == api.RLeader:
		return api.ErrEvent
	}
	if s.log.has(index, term) {
		s.log.cutTo(index)
	} else {
		s.log = record{cut: index, cutTerm: term}
	}
	s.commit, s.changed = index, index+1
	return api.OK
}

func (s *step) handOver(peer int) api.Errno {
	switch {
	case !s.isOther(peer):
		return api.ErrEvent
	case s.role != api.RLeader:
		return api.ErrNotLeader
	}
	s.heir, s.elapsed = peer, 0
	if !s.yield() {
		s.send(peer)
	}
	return api.OK
}

// yield tells the heir to stand, if it has the whole log; false: it has not.
func (s *step) yield() bool {
	if s.match[s.heir] != s.log.last() {
		return false
	}
	s.say(api.Msg{Kind: api.MHandOver, To: s.heir})
	return true
}

func (s *step) unreachable(peer int) api.Errno {
	if !s.isOther(peer) {
		return api.ErrEvent
	}
	delete(s.heard, peer)
	return api.OK
}
