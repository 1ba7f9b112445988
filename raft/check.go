package raft

import (
	"slices"

	"strata/api"
)

func isWithin(n, least, most int) bool { return least <= n && n <= most }

func isConfig(c api.RaftConfig) bool {
	return arePeers(c.Peers) && slices.Contains(c.Peers, c.ID) &&
		1 <= c.Beat && c.Beat < c.Least && c.Least <= c.Most && c.Most <= api.MaxTimeout &&
		isWithin(c.Batch, 1, api.MaxBatch)
}

func arePeers(peers []int) bool {
	ahead := 0
	for _, peer := range peers {
		if !isWithin(peer, ahead+1, api.MaxNodes) {
			return false
		}
		ahead = peer
	}
	return true
}

func isState(peers []int, s api.RaftState) bool {
	return isHard(peers, s.Hard) &&
		isPlace(s.SnapIndex, s.SnapTerm, s.Hard.Term) && len(s.Log) <= api.MaxLog &&
		goOn(s.Log, s.SnapIndex, s.SnapTerm, s.Hard.Term) &&
		isWithin(s.Commit, s.SnapIndex, s.SnapIndex+len(s.Log))
}

func isHard(peers []int, h api.Hard) bool {
	if !isWithin(h.Term, 0, api.MaxTerm) {
		return false
	}
	return h.Vote == 0 || h.Term > 0 && slices.Contains(peers, h.Vote)
}

// isPlace: an index with its term, of which only the beginning has none.
func isPlace(index, term, most int) bool {
	return isWithin(index, 0, api.MaxIndex) && isWithin(term, 0, most) && (index == 0) == (term == 0)
}

// goOn: entries that may stand behind an index and its term, with terms up to most.
func goOn(l []api.LogEntry, index, term, most int) bool {
	for _, e := range l {
		index++
		if e.Index != index || index > api.MaxIndex || !isWithin(e.Term, max(1, term), most) {
			return false
		}
		term = e.Term
	}
	return true
}

// isMessage: one that may come to this node at all.
func (n *Node) isMessage(m api.Msg) bool {
	return isWithin(m.Kind, api.MPreVote, api.MHandOver) && n.isOther(m.From) && m.To == n.config.ID &&
		isWithin(m.Term, 1, api.MaxTerm) && areNumbers(m) && areEntries(m) &&
		(m.Kind != api.MSnapshot || m.Index > 0) && isHint(m)
}

func areNumbers(m api.Msg) bool {
	switch m.Kind {
	case api.MPreVote, api.MVote, api.MAppend, api.MSnapshot:
		if !isPlace(m.Index, m.LogTerm, m.Term) {
			return false
		}
	}
	return isWithin(m.Index, 0, api.MaxIndex) && isWithin(m.LogTerm, 0, m.Term) &&
		isWithin(m.Commit, 0, api.MaxIndex) && isWithin(m.Hint, 0, api.MaxIndex)
}

func areEntries(m api.Msg) bool {
	if m.Kind != api.MAppend {
		return len(m.Entries) == 0
	}
	return len(m.Entries) <= api.MaxBatch && goOn(m.Entries, m.Index, m.LogTerm, m.Term)
}

// isHint: a refused leader must get a place to go back to.
func isHint(m api.Msg) bool {
	if m.Kind != api.MAppendReply || !m.Reject {
		return true
	}
	return m.Hint < m.Index || m.Hint == 0 && m.Index == 0
}

// isWrong: a message that no right node can send to this one, as it stands.
func (n *Node) isWrong(m api.Msg) bool {
	leads, now := n.role == api.RLeader, m.Term == n.hard.Term
	switch m.Kind {
	case api.MAppend:
		other := m.Index == n.commit && m.LogTerm != n.log.term(n.commit)
		return leads && now || other && m.Term >= n.hard.Term
	case api.MSnapshot:
		return leads && now
	case api.MAppendReply:
		return leads && now && !m.Reject && m.Index > n.log.last()
	}
	return false
}
