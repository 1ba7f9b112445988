package retain

import "strata/api"

// Reader does what Read does, entry by entry.
type Reader struct {
	stream
	time     int
	versions int
	shown    int // versions of the column
}

// NewReader is a reader that has seen no entry.
func NewReader(s api.Schema, clock, t, n int) (*Reader, api.Errno) {
	if err := checkBounds(s, clock, t); err != api.OK {
		return nil, err
	}
	if n < 1 || n > api.MaxVersions {
		return nil, api.ErrTimes
	}
	r := &Reader{time: t, versions: n}
	r.walk = newWalk(s, clock, r.show)
	return r, api.OK
}

// Push takes the next entry in order; what is read, as far as it is decided.
func (r *Reader) Push(e api.Entry) ([]api.Entry, api.Errno) { return r.push(e) }

// End is what is read of the rest.
func (r *Reader) End() []api.Entry { return r.end() }

// show puts a version that is visible, and asked for, behind the rest.
func (r *Reader) show(v verdict) {
	if v.rank == 1 {
		// Each column has its own first rank, and shows nothing ahead of it.
		r.shown = 0
	}
	if v.fate != kept || v.entry.Kind != api.KPut || v.entry.Ts > r.time || r.shown == r.versions {
		return
	}
	r.shown++
	r.add(v.entry)
}
