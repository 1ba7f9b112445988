package run

import (
	"bytes"

	"strata/api"
)

// tally is what a run's blocks hold.
type tally struct {
	count int
	seq   int // the greatest one
	rows  [][]byte
}

// Verify reads every block: the number of the first one that is broken, or -1.
func (r *Run) Verify() (int, api.Errno) {
	var t tally
	for i := range r.index {
		b, sound := r.read(i)
		if !sound {
			return i, api.ErrBroken
		}
		for e := range b.All() {
			t.count++
			t.seq = max(t.seq, e.Seq)
			t.rows = appendRow(t.rows, e.Row)
		}
	}
	if t.count != r.foot.count || t.seq > lastSeq(r.foot.sealed) || !isFilterOf(r.filter, t.rows) {
		return -1, api.ErrRun
	}
	return -1, api.OK
}

// isFilterOf tells whether a filter is the one of these rows, with some number of bits a row, or is none.
func isFilterOf(filter []byte, rows [][]byte) bool {
	if len(filter) == 0 {
		return true
	}
	for bits := 1; bits <= api.MaxBits; bits++ {
		// Of many rows hardly two numbers of bits make filters of one length, and only what may be alike is built.
		if filterSize(bits, len(rows)) == len(filter) && bytes.Equal(filterOf(bits, rows), filter) {
			return true
		}
	}
	return false
}

// filterSize is how many bytes the filter of so many rows has: its head, and its bits, which are whole bytes and at least eight of them.
func filterSize(bits, rows int) int { return 6 + max(8, (bits*rows+7)/8) }
