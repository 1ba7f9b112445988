package raft

import (
	"bytes"
	"slices"

	"strata/api"
)

// record is a log: entries one behind the other, from the one behind cut on.
type record struct {
	cut     int
	cutTerm int
	entries []api.LogEntry
}

func (l *record) last() int { return l.cut + len(l.entries) }

// term is that of an index from cut to last.
func (l *record) term(index int) int {
	if index == l.cut {
		return l.cutTerm
	}
	return l.entries[index-l.cut-1].Term
}

func (l *record) lastTerm() int { return l.term(l.last()) }

// has: an entry of that index, which is above cut, and that term.
func (l *record) has(index, term int) bool {
	return index <= l.last() && l.term(index) == term
}

// from is copies of up to most entries, from an index behind cut on.
func (l *record) from(index, most int) []api.LogEntry {
	tail := l.entries[index-l.cut-1:]
	return copies(tail[:min(most, len(tail))])
}

// dropFrom lets the entries from an index on go.
func (l *record) dropFrom(index int) {
	l.entries = slices.Delete(l.entries, index-l.cut-1, len(l.entries))
}

// cutTo lets the entries up to an index go.
func (l *record) cutTo(index int) {
	l.cutTerm = l.term(index)
	l.entries = slices.Delete(l.entries, 0, index-l.cut)
	l.cut = index
}

// room is how many entries may still join.
func (l *record) room() int { return api.MaxLog - len(l.entries) }

func copies(l []api.LogEntry) []api.LogEntry {
	var out []api.LogEntry
	for _, e := range l {
		e.Data = bytes.Clone(e.Data)
		out = append(out, e)
	}
	return out
}
