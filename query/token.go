package query

import (
	"bytes"

	"strata/api"
	"strata/wire"
)

// mark is what a token holds of where a page ended; without a token: nothing.
type mark struct {
	time int
	row  []byte
}

func writeToken(q api.Query, m mark) ([]byte, api.Errno) {
	body := wire.Uint(uint64(m.time))
	body = append(body, wire.Bytes(m.row)...)
	body = append(body, wire.Uint(uint64(formSum(q)))...)
	return wire.Frame(body)
}

// readToken is what the token of a question holds, or the token's error.
func readToken(q api.Query) (mark, api.Errno) {
	if len(q.Token) == 0 {
		return mark{}, api.OK
	}
	time, row, sum, is := takeToken(q.Token)
	switch {
	case !is, time < 1, time > api.MaxTime, len(row) == 0, !asksFor(q, row):
		return mark{}, api.ErrToken
	case q.Time != 0 && uint64(q.Time) != time, sum != uint64(formSum(q)):
		return mark{}, api.ErrToken
	}
	return mark{int(time), row}, api.OK
}

// takeToken takes a token apart; false: the bytes are none, or there are more of them than it has.
func takeToken(b []byte) (time uint64, row []byte, sum uint64, is bool) {
	body, end, err := wire.ReadFrame(b, 0)
	if err != api.OK || end != len(b) {
		return 0, nil, 0, false
	}
	time, at, err := wire.ReadUint(body, 0)
	if err != api.OK {
		return 0, nil, 0, false
	}
	row, at, err = wire.ReadBytes(body, at, api.MaxRow)
	if err != api.OK {
		return 0, nil, 0, false
	}
	sum, at, err = wire.ReadUint(body, at)
	if err != api.OK || at != len(body) {
		return 0, nil, 0, false
	}
	return time, row, sum, true
}

// asksFor tells whether a row lies within a question's bounds.
func asksFor(q api.Query, row []byte) bool { return !isAhead(q, row) && !isBehind(q, row) }

func isAhead(q api.Query, row []byte) bool { return bytes.Compare(row, q.From) < 0 }

func isBehind(q api.Query, row []byte) bool { return len(q.To) > 0 && bytes.Compare(row, q.To) >= 0 }

// formSum is the sum of all of a question that its pages have in common.
func formSum(q api.Query) uint32 {
	direction := []byte{0}
	if q.Reverse {
		direction[0] = 1
	}
	parts := [][]byte{direction, wire.Bytes(q.From), wire.Bytes(q.To), number(len(q.Fams))}
	for _, f := range q.Fams {
		parts = append(parts, number(f))
	}
	parts = append(parts, wire.Bytes(q.Prefix), number(q.Time), number(q.N), wire.Bytes([]byte(q.Where)))
	return wire.Sum(parts...)
}

// number writes any int, one below 0 by its 64 bits.
func number(n int) []byte { return wire.Uint(uint64(n)) }
