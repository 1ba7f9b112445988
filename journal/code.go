package journal

import (
	"math"

	"strata/api"
	"strata/wire"
)

// The first byte of a frame's body, and the second one of a head.
const (
	headByte   = 'H'
	recordByte = 'S'

	goesOn     = 0
	beginsAnew = 1
)

// head is how a segment begins.
type head struct {
	anew           bool
	hard           api.Hard
	base, baseTerm int
	part           int
}

// headOf is the head of a segment that begins where a journal says this.
func headOf(s *state, anew bool, part int) head {
	return head{anew: anew, hard: s.hard, base: s.base, baseTerm: s.baseTerm, part: part}
}

func (h head) frame() []byte {
	out := []byte{headByte, goesOn}
	if h.anew {
		out[1] = beginsAnew
	}
	return framed(appendNumbers(out, h.hard.Term, h.hard.Vote, h.base, h.baseTerm, h.part))
}

// framed is for bodies that are no longer than MaxFrame.
func framed(body []byte) []byte {
	out, _ := wire.Frame(body)
	return out
}

func recordFrame(h api.Hard, from int, l []api.LogEntry) []byte {
	body := appendNumbers(recordStart(h, from), len(l))
	for _, e := range l {
		body = appendNumbers(body, e.Term)
		body = append(body, wire.Bytes(e.Data)...)
	}
	return framed(body)
}

// recordFrames: all entries of a journal, in as few records as can be.
func recordFrames(s *state) []byte {
	var out []byte
	from := s.base + 1
	for left := s.entries; len(left) > 0; {
		n := fitting(s.hard, from, left)
		out = append(out, recordFrame(s.hard, from, left[:n])...)
		left, from = left[n:], from+n
	}
	return out
}

func recordStart(h api.Hard, from int) []byte {
	return appendNumbers([]byte{recordByte}, h.Term, h.Vote, from)
}

// fitting tells how many of these entries, from the first on, the body of one record may hold. No record is made up for it: they may be far too many.
func fitting(h api.Hard, from int, l []api.LogEntry) int {
	size := len(recordStart(h, from))
	for i, e := range l {
		size += numberSize(e.Term) + numberSize(len(e.Data)) + len(e.Data)
		if size+numberSize(i+1) > api.MaxFrame {
			return i
		}
	}
	return len(l)
}

func numberSize(n int) int { return len(wire.Uint(uint64(n))) }

func appendNumbers(out []byte, numbers ...int) []byte {
	for _, n := range numbers {
		out = append(out, wire.Uint(uint64(n))...)
	}
	return out
}

// readHead reads a head's body; false: it is none.
func readHead(body []byte) (head, bool) {
	if len(body) < 2 || body[0] != headByte || body[1] > beginsAnew {
		return head{}, false
	}
	h := head{anew: body[1] == beginsAnew}
	r := reader{b: body, at: 2}
	r.numbers(&h.hard.Term, &h.hard.Vote, &h.base, &h.baseTerm, &h.part)
	return h, r.ended() && h.holds()
}

func (h head) holds() bool {
	return inBounds(h.hard) && mayBeBase(h.base, h.baseTerm, h.hard) && (h.part == 0 || !h.anew)
}

// mayBeBase tells whether index and term may stand ahead of all entries: both are 0, or neither.
func mayBeBase(index, term int, h api.Hard) bool {
	return within(index, 0, api.MaxIndex) && within(term, 0, h.Term) && (index == 0) == (term == 0)
}

// record is what a Save was given.
type record struct {
	hard    api.Hard
	from    int
	entries []api.LogEntry
}

// readRecord reads a record's body; false: it is none. Whether a Save would take it is not asked.
func readRecord(body []byte) (record, bool) {
	if len(body) == 0 || body[0] != recordByte {
		return record{}, false
	}
	var rec record
	var count int
	r := reader{b: body, at: 1}
	r.numbers(&rec.hard.Term, &rec.hard.Vote, &rec.from, &count)
	// A few bytes may speak of very many entries: no more are read than there are.
	for i := 0; i < count && !r.bad; i++ {
		e := api.LogEntry{Index: rec.from + i}
		r.numbers(&e.Term)
		e.Data = r.bytes()
		rec.entries = append(rec.entries, e)
	}
	return rec, r.ended()
}

// reader reads a body's parts from the left; once one is not there it is bad for good, and reads nothing any more.
type reader struct {
	b   []byte
	at  int
	bad bool
}

func (r *reader) numbers(places ...*int) {
	for _, p := range places {
		*p = r.number()
	}
}

func (r *reader) number() int {
	if r.bad {
		return 0
	}
	n, end, err := wire.ReadUint(r.b, r.at)
	r.at = end
	if err != api.OK || n > math.MaxInt {
		r.bad = true
		return 0
	}
	return int(n)
}

func (r *reader) bytes() []byte {
	if r.bad {
		return nil
	}
	b, end, err := wire.ReadBytes(r.b, r.at, api.MaxCommand)
	r.at = end
	r.bad = err != api.OK
	return b
}

// ended: all parts were there, and nothing is left over.
func (r *reader) ended() bool { return !r.bad && r.at == len(r.b) }
