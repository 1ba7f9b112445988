package journal

import (
	"cmp"
	"slices"
	"strconv"
	"strings"

	"strata/api"
	"strata/disk"
	"strata/wire"
)

// What the names of a journal's files have behind its prefix.
const (
	segmentName = "J-"
	tmpName     = "J.TMP"
)

// segment is a file of a journal.
type segment struct {
	num int
	b   []byte
}

// Open opens the journal on a disk, or begins one; limit: bytes of a segment.
func Open(d *disk.Disk, prefix string, limit int) (*Journal, api.Errno) {
	if err := ready(d, prefix, limit); err != api.OK {
		return nil, err
	}
	all, err := segments(d, prefix)
	if err != api.OK {
		return nil, err
	}
	ahead, counting, unbegun := split(all)
	j := &Journal{d: d, prefix: strings.Clone(prefix), limit: limit, row: row{first: 1}}
	if !j.play(counting) {
		return nil, api.ErrJournal
	}
	if err := j.sweep(slices.Concat(ahead, unbegun)); err != api.OK {
		return nil, err
	}
	return j, api.OK
}

func ready(d *disk.Disk, prefix string, limit int) api.Errno {
	switch {
	case d == nil:
		return api.ErrArg
	case d.Down():
		return api.ErrDown
	case len(prefix) > api.MaxPrefix:
		return api.ErrName
	}
	// Whether there is such a file does not matter: Size alone tells, without an act, whether it may be a name.
	if _, err := d.Size(prefix + tmpName); err == api.ErrName {
		return err
	}
	if !within(limit, api.MinSegment, api.MaxSegment) {
		return api.ErrSegment
	}
	return api.OK
}

func nameOf(prefix string, num int) string { return prefix + segmentName + strconv.Itoa(num) }

// numOf is the number of the segment that has this name; false: it is no segment's.
func numOf(prefix, name string) (int, bool) {
	digits, is := strings.CutPrefix(name, prefix+segmentName)
	num, err := strconv.Atoi(digits)
	// A number has one name: with a zero ahead of it, it is another file's.
	if !is || err != nil || !within(num, 1, api.MaxIndex) || nameOf(prefix, num) != name {
		return 0, false
	}
	return num, true
}

// segments reads all of them, by rising number.
func segments(d *disk.Disk, prefix string) ([]segment, api.Errno) {
	var all []segment
	for _, name := range d.List(prefix + segmentName) {
		num, is := numOf(prefix, name)
		if !is {
			continue
		}
		size, err := d.Size(name)
		if err != api.OK {
			return nil, err
		}
		b, err := d.Read(name, 0, size)
		if err != api.OK {
			return nil, err
		}
		all = append(all, segment{num, b})
	}
	slices.SortFunc(all, func(a, b segment) int { return cmp.Compare(a.num, b.num) })
	return all, api.OK
}

// split tells which segments stand ahead of the row, which are the row, and which one is not begun. If none begins anew all are the row, which is then not right, unless it is empty.
func split(all []segment) (ahead, counting, unbegun []segment) {
	counting = all
	if n := len(all); n > 0 && all[n-1].isUnbegun() {
		counting, unbegun = all[:n-1], all[n-1:]
	}
	for i, s := range slices.Backward(counting) {
		if h, is := s.head(); is && h.anew {
			return counting[:i], counting[i:], unbegun
		}
	}
	return nil, counting, unbegun
}

func (s segment) isUnbegun() bool {
	_, _, err := wire.ReadFrame(s.b, 0)
	return err == api.ErrTorn
}

func (s segment) head() (head, bool) {
	body, _, err := wire.ReadFrame(s.b, 0)
	if err != api.OK {
		return head{}, false
	}
	return readHead(body)
}

// play makes the journal say what a row says; false: the row is not right.
func (j *Journal) play(counting []segment) bool {
	for i, s := range counting {
		b := s.b
		isLast := i+1 == len(counting)
		if !isLast {
			next, is := counting[i+1].head()
			if !is || next.part > len(b) {
				return false
			}
			b = b[:next.part]
		}
		if i > 0 && s.num != j.row.last+1 {
			return false
		}
		whole, right := j.playSegment(b, i == 0)
		// Of the last one alone a tail may be torn; and none is without its head.
		if !right || whole == 0 || !isLast && whole != len(b) {
			return false
		}
		j.row = row{first: counting[0].num, last: s.num, whole: whole, torn: whole < len(b)}
	}
	return true
}

// playSegment goes through a segment's frames: how many bytes they are, up to a torn tail; false: one of them is not right.
func (j *Journal) playSegment(b []byte, isFirst bool) (int, bool) {
	at := 0
frames:
	for at < len(b) {
		body, end, err := wire.ReadFrame(b, at)
		switch {
		case err == api.ErrTorn:
			break frames
		case err != api.OK:
			return 0, false
		case at == 0 && !j.now.begin(body, isFirst):
			return 0, false
		case at > 0 && !j.now.add(body):
			return 0, false
		}
		at = end
	}
	return at, true
}

// begin goes on with a segment's head; false: it is none that may stand there.
func (s *state) begin(body []byte, isFirst bool) bool {
	h, is := readHead(body)
	if !is || h.anew != isFirst {
		return false
	}
	if isFirst {
		*s = state{hard: h.hard, base: h.base, baseTerm: h.baseTerm}
		return true
	}
	return h == headOf(s, false, h.part)
}

// add goes on with a record; false: it is none that Save would take.
func (s *state) add(body []byte) bool {
	r, is := readRecord(body)
	if !is || s.check(r.hard, r.from, r.entries) != api.OK {
		return false
	}
	s.take(r.hard, r.from, r.entries)
	return true
}

// sweep deletes what does not count.
func (j *Journal) sweep(left []segment) api.Errno {
	if err := deleteIfThere(j.d, j.prefix+tmpName); err != api.OK {
		return err
	}
	for _, s := range left {
		if err := deleteIfThere(j.d, nameOf(j.prefix, s.num)); err != api.OK {
			return err
		}
	}
	return api.OK
}

func deleteIfThere(d *disk.Disk, name string) api.Errno {
	err := d.Delete(name)
	if err == api.ErrNoFile {
		return api.OK
	}
	return err
}
