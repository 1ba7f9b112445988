package manifest

import (
	"bytes"
	"math"

	"strata/api"
	"strata/wire"
)

const magic = "STRATA-M"

// Encode writes a version.
func Encode(v api.Version) ([]byte, api.Errno) {
	if err := Check(v); err != api.OK {
		return nil, err
	}
	// The longest state and the longest keys of all runs are far below MaxFrame.
	frame, _ := wire.Frame(bodyOf(v))
	return append([]byte(magic), frame...), api.OK
}

// bodyOf is for a version that Check took: no number of it is below 0.
func bodyOf(v api.Version) []byte {
	out := appendNumbers(nil, v.Gen, v.Flushed, v.Next, v.Low, v.Clock)
	out = append(out, wire.Bytes(v.State)...)
	out = appendNumbers(out, len(v.Runs))
	for _, m := range v.Runs {
		out = appendNumbers(out, m.Num, m.Count, m.Index, m.Low, m.Clock, m.Bytes)
		out = append(out, wire.Bytes(m.First)...)
		out = append(out, wire.Bytes(m.Last)...)
	}
	return out
}

func appendNumbers(out []byte, numbers ...int) []byte {
	for _, n := range numbers {
		out = append(out, wire.Uint(uint64(n))...)
	}
	return out
}

// Decode reads a version.
func Decode(b []byte) (api.Version, api.Errno) {
	if !bytes.HasPrefix(b, []byte(magic)) {
		return api.Version{}, api.ErrManifest
	}
	body, end, err := wire.ReadFrame(b, len(magic))
	if err != api.OK || end != len(b) {
		return api.Version{}, api.ErrManifest
	}
	r := reader{b: body}
	v := r.version()
	if r.bad || r.at != len(body) || Check(v) != api.OK {
		return api.Version{}, api.ErrManifest
	}
	return v, api.OK
}

// reader reads a body's parts from the left; once one is not there it is bad for good, and reads nothing any more.
type reader struct {
	b   []byte
	at  int
	bad bool
}

func (r *reader) version() api.Version {
	var v api.Version
	var count int
	r.numbers(&v.Gen, &v.Flushed, &v.Next, &v.Low, &v.Clock)
	v.State = r.text()
	r.numbers(&count)
	// Runs that no version has are not even read: a few bytes may speak of very many.
	if count > api.MaxRuns {
		r.bad = true
		return v
	}
	for range count {
		v.Runs = append(v.Runs, r.run())
	}
	return v
}

func (r *reader) run() api.RunMeta {
	var m api.RunMeta
	r.numbers(&m.Num, &m.Count, &m.Index, &m.Low, &m.Clock, &m.Bytes)
	m.First = r.text()
	m.Last = r.text()
	return m
}

func (r *reader) numbers(places ...*int) {
	for _, p := range places {
		*p = r.number()
	}
}

func (r *reader) number() int {
	if r.bad {
		return 0
	}
	n, end, err := wire.ReadUint(r.b, r.at)
	r.at = end
	if err != api.OK || n > math.MaxInt {
		r.bad = true
		return 0
	}
	return int(n)
}

func (r *reader) text() []byte {
	if r.bad {
		return nil
	}
	b, end, err := wire.ReadBytes(r.b, r.at, len(r.b))
	r.at = end
	r.bad = err != api.OK
	return b
}
