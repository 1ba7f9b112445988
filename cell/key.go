package cell

import (
	"strata/api"
	"strata/wire"
)

// A tombstone of a family, or of a column, has the lower mark in its key, so that it sorts ahead of what has none.
const (
	markAhead = 0
	markPlain = 1
)

// pastRow is above every family's byte, which is what follows a row in a key.
const pastRow = 255

func markOf(kind, ahead int) byte {
	if kind == ahead {
		return markAhead
	}
	return markPlain
}

// Key is an entry's key: keys sort as entries do.
func Key(e api.Entry) ([]byte, api.Errno) {
	if err := Check(e); err != api.OK {
		return nil, err
	}
	out := wire.Ordered(e.Row)
	out = append(out, byte(e.Fam), markOf(e.Kind, api.KFam))
	if e.Kind != api.KFam {
		out = append(out, wire.Ordered(e.Qual)...)
		out = append(out, markOf(e.Kind, api.KCol))
	}
	out = appendFalling(out, e.Ts)
	out = appendFalling(out, e.Seq)
	return append(out, byte(e.Kind)), api.OK
}

// appendFalling is for numbers that Check took: Falling refuses none of them.
func appendFalling(out []byte, n int) []byte {
	b, _ := wire.Falling(n)
	return append(out, b...)
}

// ParseKey reads a key: the entry without its value.
func ParseKey(b []byte) (api.Entry, api.Errno) {
	r := keyReader{b: b}
	e := r.entry()
	if r.bad || r.at != len(b) || Check(e) != api.OK {
		return api.Entry{}, api.ErrKey
	}
	return e, api.OK
}

// keyReader reads a key's parts from the left; once one is not there it is bad for good, and what it reads from then on means nothing.
type keyReader struct {
	b   []byte
	at  int
	bad bool
}

func (r *keyReader) entry() api.Entry {
	var e api.Entry
	e.Row = r.text()
	e.Fam = int(r.one())
	famMark := r.one()
	colMark := byte(markPlain)
	if famMark != markAhead {
		e.Qual = r.text()
		colMark = r.one()
	}
	e.Ts = r.falling()
	e.Seq = r.falling()
	e.Kind = int(r.one())
	if famMark != markOf(e.Kind, api.KFam) || colMark != markOf(e.Kind, api.KCol) {
		r.bad = true
	}
	return e
}

func (r *keyReader) text() []byte {
	s, end, err := wire.ReadOrdered(r.b, r.at)
	r.step(end, err)
	return s
}

func (r *keyReader) falling() int {
	n, end, err := wire.ReadFalling(r.b, r.at)
	r.step(end, err)
	return n
}

func (r *keyReader) one() byte {
	if r.at == len(r.b) {
		r.bad = true
		return 0
	}
	r.at++
	return r.b[r.at-1]
}

func (r *keyReader) step(end int, err api.Errno) {
	r.at = end
	r.bad = r.bad || err != api.OK
}

// Start is what all keys of a row begin with.
func Start(row []byte) ([]byte, api.Errno) {
	if !isRow(row) {
		return nil, api.ErrRow
	}
	return wire.Ordered(row), api.OK
}

// Behind is bytes behind all keys of a row, ahead of those of later rows.
func Behind(row []byte) ([]byte, api.Errno) {
	start, err := Start(row)
	if err != api.OK {
		return nil, err
	}
	return append(start, pastRow), api.OK
}
