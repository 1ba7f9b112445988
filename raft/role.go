package raft

import (
	"slices"

	"strata/api"
)

func (s *step) follow(term, leader int) {
	if term > s.hard.Term {
		s.hard = api.Hard{Term: term}
	}
	s.role, s.leader = api.RFollower, leader
	s.race, s.reign = race{}, reign{}
	s.wait(s.draw)
}

// maySeek: a leader needs a term of its own, and an entry in it.
func (n *Node) maySeek() bool {
	return n.hard.Term < api.MaxTerm && n.log.last() < api.MaxIndex && n.log.room() > 0
}

// begin asks whether it would be voted for, which changes no term.
func (s *step) begin() {
	s.wait(s.draw)
	if !s.maySeek() {
		return
	}
	s.role, s.leader = api.RPre, 0
	s.race = race{granted: crowd{}}
	if s.grant(s.config.ID) {
		s.stand(false)
		return
	}
	s.sayToOthers(api.Msg{Kind: api.MPreVote, Term: s.hard.Term + 1, Index: s.log.last(), LogTerm: s.log.lastTerm()})
}

// stand asks for votes; forced: also those that have a leader, who wants it so.
func (s *step) stand(forced bool) {
	s.hard = api.Hard{Term: s.hard.Term + 1, Vote: s.config.ID}
	s.role, s.leader = api.RCandidate, 0
	s.wait(s.draw)
	s.race = race{granted: crowd{}, refused: crowd{}}
	if s.grant(s.config.ID) {
		s.lead()
		return
	}
	m := api.Msg{Kind: api.MVote, Index: s.log.last(), LogTerm: s.log.lastTerm()}
	if forced {
		m.Hint = 1
	}
	s.sayToOthers(m)
}

// grant counts a peer as granting: whether a majority is now.
func (s *step) grant(peer int) bool {
	s.granted.add(peer)
	delete(s.refused, peer)
	return s.isMajority(len(s.granted))
}

// refuse counts a peer as refusing, unless it has granted, which it cannot take back: whether a majority is now.
func (s *step) refuse(peer int) bool {
	if _, is := s.granted[peer]; !is {
		s.refused.add(peer)
	}
	return s.isMajority(len(s.refused))
}

func (s *step) lead() {
	s.role, s.leader, s.elapsed = api.RLeader, s.config.ID, 0
	s.race, s.reign = race{}, reign{match: map[int]int{}, next: map[int]int{}, heard: crowd{}}
	next := s.log.last() + 1
	for _, peer := range s.others() {
		s.match[peer], s.next[peer] = 0, next
	}
	if next <= api.MaxIndex {
		s.join(api.LogEntry{Index: next, Term: s.hard.Term})
	}
	s.count()
	s.sendToAll()
}

// count commits what a majority has, once that reaches an entry of this term; whether it rose.
func (s *step) count() bool {
	ends := []int{s.log.last()}
	for _, peer := range s.others() {
		ends = append(ends, s.match[peer])
	}
	slices.Sort(ends)
	// From here on they are a majority, and from any later one on they are none.
	index := ends[(len(ends)-1)/2]
	if index <= s.commit || s.log.term(index) != s.hard.Term {
		return false
	}
	s.commit = index
	return true
}

func (s *step) send(peer int) {
	next := s.next[peer]
	if next <= s.log.cut {
		s.say(api.Msg{Kind: api.MSnapshot, To: peer, Index: s.log.cut, LogTerm: s.log.cutTerm, Commit: s.commit})
		s.snaps = append(s.snaps, peer)
		return
	}
	s.say(api.Msg{
		Kind:    api.MAppend,
		To:      peer,
		Index:   next - 1,
		LogTerm: s.log.term(next - 1),
		Commit:  s.commit,
		Entries: s.log.from(next, s.config.Batch),
	})
}

func (s *step) sendToAll() {
	for _, peer := range s.others() {
		s.send(peer)
	}
}
