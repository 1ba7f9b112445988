package retain

import "strata/api"

// Filter does what Squash does, entry by entry.
type Filter struct {
	stream
	major   bool
	low     int
	dropped api.Dropped
}

// NewFilter is a filter that has seen no entry.
func NewFilter(s api.Schema, clock int, major bool, low int) (*Filter, api.Errno) {
	if err := checkBounds(s, clock, low); err != api.OK {
		return nil, err
	}
	f := &Filter{major: major, low: low}
	f.walk = newWalk(s, clock, f.keep)
	return f, api.OK
}

// Push takes the next entry in order; what stays, as far as it is decided.
func (f *Filter) Push(e api.Entry) ([]api.Entry, api.Errno) { return f.push(e) }

// End is what stays of the rest.
func (f *Filter) End() []api.Entry { return f.end() }

// Dropped tells what was left out, by its reason.
func (f *Filter) Dropped() api.Dropped { return f.dropped }

// keep puts what stays behind the rest, and counts what does not.
func (f *Filter) keep(v verdict) {
	if f.stays(v) {
		f.add(v.entry)
		return
	}
	f.count(v.fate)
}

func (f *Filter) stays(v verdict) bool {
	switch v.fate {
	case kept:
		return true
	case nothing:
		return !f.major
	case needed:
		return !f.major || v.entry.Ts > f.low
	}
	return false
}

func (f *Filter) count(reason fate) {
	switch reason {
	case older:
		f.dropped.Older++
	case masked:
		f.dropped.Masked++
	case expired:
		f.dropped.Expired++
	case above:
		f.dropped.Above++
	default:
		f.dropped.Marks++
	}
}
