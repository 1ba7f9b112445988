package journal

import (
	"slices"

	"strata/api"
)

// state is what a journal says.
type state struct {
	hard           api.Hard
	base, baseTerm int
	entries        []api.LogEntry
}

func (s *state) last() int { return s.base + len(s.entries) }

// term is for an index from the base to the last one.
func (s *state) term(index int) int {
	if index == s.base {
		return s.baseTerm
	}
	return s.entries[index-s.base-1].Term
}

// staying tells how many entries a Save from this place on leaves.
func (s *state) staying(from int) int {
	if from == 0 {
		return len(s.entries)
	}
	return from - s.base - 1
}

// check tells whether a Save may be taken, but for the room on the disk; of a record, whether it can be one.
func (s *state) check(h api.Hard, from int, l []api.LogEntry) api.Errno {
	if err := s.checkHard(h); err != api.OK {
		return err
	}
	if from == 0 && len(l) > 0 || from != 0 && !within(from, s.base+1, s.last()+1) {
		return api.ErrGap
	}
	if !s.follow(h, from, l) {
		return api.ErrLogEntry
	}
	if s.staying(from)+len(l) > api.MaxLog || fitting(h, from, l) < len(l) {
		return api.ErrLong
	}
	return api.OK
}

func within(n, least, most int) bool { return n >= least && n <= most }

func inBounds(h api.Hard) bool {
	return within(h.Term, 0, api.MaxTerm) && within(h.Vote, 0, api.MaxNodes)
}

func (s *state) checkHard(h api.Hard) api.Errno {
	if !inBounds(h) || h.Term < s.hard.Term {
		return api.ErrHard
	}
	// A vote that was given is given for its whole term.
	if h.Term == s.hard.Term && s.hard.Vote != 0 && h.Vote != s.hard.Vote {
		return api.ErrHard
	}
	return api.OK
}

// follow tells whether these entries may stand from there on. Those that stay ahead of them have terms up to Hard's, which is not above that of h.
func (s *state) follow(h api.Hard, from int, l []api.LogEntry) bool {
	if len(l) == 0 {
		return true
	}
	least := max(1, s.term(from-1))
	for i, e := range l {
		if e.Index != from+i || e.Index > api.MaxIndex || !within(e.Term, least, h.Term) || len(e.Data) > api.MaxCommand {
			return false
		}
		least = e.Term
	}
	return true
}

// take does what check took. It keeps the entries' Data as it is.
func (s *state) take(h api.Hard, from int, l []api.LogEntry) {
	s.entries = slices.Replace(s.entries, s.staying(from), len(s.entries), l...)
	s.hard = h
}

// behind is what is said once the entries up to an index are let go.
func (s *state) behind(to int) state {
	return state{hard: s.hard, base: to, baseTerm: s.term(to), entries: slices.Clone(s.entries[to-s.base:])}
}
