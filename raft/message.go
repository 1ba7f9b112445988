package raft

import "strata/api"

// deed does what a message of one kind asks for, of this node's term (but MPreVote and MPreReply, which may tell of a later one).
type deed func(*step, api.Msg)

// deeds are found by a message's Kind.
func deeds() [api.MHandOver + 1]deed {
	return [...]deed{
		api.MPreVote:     (*step).takePreVote,
		api.MPreReply:    (*step).takePreReply,
		api.MVote:        (*step).takeVote,
		api.MVoteReply:   (*step).takeVoteReply,
		api.MAppend:      (*step).takeAppend,
		api.MAppendReply: (*step).takeAppendReply,
		api.MSnapshot:    (*step).takeSnapshot,
		api.MHandOver:    (*step).takeHandOver,
	}
}

func (s *step) hear(m api.Msg) api.Errno {
	switch {
	case !s.isMessage(m) || s.isWrong(m):
		return api.ErrEvent
	case m.Term < s.hard.Term:
		s.answerOld(m)
		return api.OK
	case m.Term > s.hard.Term && seeks(m) && s.hasLeader():
		return api.OK
	case m.Term > s.hard.Term:
		s.meetNewer(m)
	}
	deeds()[m.Kind](s, m)
	return api.OK
}

// seeks: a message of one who wants to lead, though nobody hands over to it.
func seeks(m api.Msg) bool {
	return m.Kind == api.MPreVote || m.Kind == api.MVote && m.Hint == 0
}

func (n *Node) hasLeader() bool {
	return n.role == api.RLeader || n.leader != 0 && n.elapsed < n.config.Least
}

// answerOld lets the sender of a request hear of this node's term.
func (s *step) answerOld(m api.Msg) {
	switch m.Kind {
	case api.MAppend, api.MSnapshot:
		s.say(api.Msg{Kind: api.MAppendReply, To: m.From, Reject: true, Index: m.Index})
	case api.MPreVote:
		s.say(api.Msg{Kind: api.MPreReply, To: m.From, Reject: true})
	case api.MVote:
		s.say(api.Msg{Kind: api.MVoteReply, To: m.From, Reject: true})
	}
}

// meetNewer goes over to a message's term, unless nobody has begun that term yet. Who leads it is said where an append or a snapshot is taken.
func (s *step) meetNewer(m api.Msg) {
	if m.Kind != api.MPreVote && (m.Kind != api.MPreReply || m.Reject) {
		s.follow(m.Term, 0)
	}
}

// isAsGood: whoever has such a log lacks nothing that may be committed here.
func (s *step) isAsGood(m api.Msg) bool {
	term := s.log.lastTerm()
	return m.LogTerm > term || m.LogTerm == term && m.Index >= s.log.last()
}

func (s *step) takePreVote(m api.Msg) {
	reply := api.Msg{Kind: api.MPreReply, To: m.From, Reject: true}
	if m.Term > s.hard.Term && s.isAsGood(m) {
		reply.Term, reply.Reject = m.Term, false
	}
	s.say(reply)
}

func (s *step) takePreReply(m api.Msg) {
	if s.role != api.RPre || m.Reject || m.Term != s.hard.Term+1 {
		return
	}
	if s.grant(m.From) {
		s.stand(false)
	}
}

func (s *step) takeVote(m api.Msg) {
	free := s.hard.Vote == 0 && s.leader == 0
	is := s.isAsGood(m) && (s.hard.Vote == m.From || free)
	if is {
		s.hard.Vote = m.From
		s.wait(s.draw)
	}
	s.say(api.Msg{Kind: api.MVoteReply, To: m.From, Reject: !is})
}

func (s *step) takeVoteReply(m api.Msg) {
	switch {
	case s.role != api.RCandidate:
	case m.Reject:
		if s.refuse(m.From) {
			s.follow(s.hard.Term, 0)
		}
	case s.grant(m.From):
		s.lead()
	}
}

func (s *step) takeAppend(m api.Msg) {
	s.follow(s.hard.Term, m.From)
	reply := api.Msg{Kind: api.MAppendReply, To: m.From, Index: m.Index}
	switch {
	case m.Index < s.commit:
		reply.Index = s.commit
	case m.Index > s.log.last():
		reply.Reject, reply.Hint = true, s.log.last()
	case m.LogTerm != s.log.term(m.Index):
		reply.Reject, reply.Hint = true, m.Index-1
	default:
		reply.Index = s.accept(m)
		s.commit = max(s.commit, min(m.Commit, reply.Index))
	}
	s.say(reply)
}

// accept takes the entries of a message that fits on the log: up to where the log has them.
func (s *step) accept(m api.Msg) int {
	for i, e := range m.Entries {
		if !s.log.has(e.Index, e.Term) {
			s.log.dropFrom(e.Index)
			fresh := m.Entries[i:]
			s.join(fresh[:min(len(fresh), s.log.room())]...)
			return s.log.last()
		}
	}
	return m.Index + len(m.Entries)
}

func (s *step) takeSnapshot(m api.Msg) {
	s.follow(s.hard.Term, m.From)
	reply := api.Msg{Kind: api.MAppendReply, To: m.From, Index: m.Index}
	switch {
	case s.commit >= m.Index:
		reply.Index = s.commit
	case s.log.has(m.Index, m.LogTerm):
		s.commit = m.Index
	default:
		reply.Reject, reply.Hint = true, s.commit
	}
	s.say(reply)
}

func (s *step) takeHandOver(m api.Msg) {
	if s.role == api.RFollower && s.leader == m.From && s.maySeek() {
		s.stand(true)
	}
}

func (s *step) takeAppendReply(m api.Msg) {
	if s.role != api.RLeader {
		return
	}
	s.heard.add(m.From)
	switch {
	case m.Reject && m.Index == s.next[m.From]-1:
		s.goBack(m.From, m.Hint)
	case !m.Reject && m.Index > s.match[m.From]:
		s.goAhead(m.From, m.Index)
	}
	if m.From == s.heir {
		s.yield()
	}
}

// goBack sends a peer what stands behind the place that it told.
func (s *step) goBack(peer, hint int) {
	s.next[peer] = min(max(s.match[peer], hint), s.log.last()) + 1
	s.send(peer)
}

func (s *step) goAhead(peer, index int) {
	s.match[peer], s.next[peer] = index, index+1
	switch {
	case s.count():
		s.sendToAll()
	case s.next[peer] <= s.log.last():
		s.send(peer)
	}
}
