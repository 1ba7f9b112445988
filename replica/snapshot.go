package replica

import (
	"math"
	"slices"

	"strata/api"
	"strata/wire"
)

// mark is the byte with which the head of a snapshot begins.
const mark = 'G'

// snapshot is an image, and the term of its index.
type snapshot struct {
	term  int
	image api.Image
}

// bytes are a head, and the runs behind it.
func (x snapshot) bytes() []byte {
	head := appendNumbers([]byte{mark}, x.image.Index, x.term, x.image.Clock, x.image.Low)
	head = append(head, wire.Bytes(x.image.State)...)
	head = appendNumbers(head, len(x.image.Runs))
	for _, run := range x.image.Runs {
		head = appendNumbers(head, len(run))
	}
	// A frame takes far more than a state and the lengths of all runs that a tree can have.
	frame, _ := wire.Frame(head)
	return slices.Concat(frame, slices.Concat(x.image.Runs...))
}

func appendNumbers(out []byte, numbers ...int) []byte {
	for _, n := range numbers {
		out = append(out, wire.Uint(uint64(n))...)
	}
	return out
}

// readSnapshot reads a snapshot's bytes, of which its runs are pieces; false: they are none. Whether a tree would take it is not asked.
func readSnapshot(b []byte) (snapshot, bool) {
	head, end, err := wire.ReadFrame(b, 0)
	if err != api.OK || len(head) == 0 || head[0] != mark {
		return snapshot{}, false
	}
	var x snapshot
	r := reader{b: head, at: 1}
	x.image.Index, x.term, x.image.Clock, x.image.Low = r.number(), r.number(), r.number(), r.number()
	x.image.State = r.text()
	left := b[end:]
	// A few bytes may speak of very many runs: no more are read than there are.
	for count := r.number(); count > 0 && !r.broken; count-- {
		size := r.number()
		if size > len(left) {
			return snapshot{}, false
		}
		x.image.Runs = append(x.image.Runs, left[:size])
		left = left[size:]
	}
	if r.broken || r.at < len(head) || len(left) > 0 {
		return snapshot{}, false
	}
	return x, true
}

// reader takes parts off bytes, from the left.
type reader struct {
	b      []byte
	at     int
	broken bool // a part is not there: then none counts
}

func (r *reader) number() int {
	n, end, err := wire.ReadUint(r.b, r.at)
	if err != api.OK || n > math.MaxInt {
		r.broken = true
		return 0
	}
	r.at = end
	return int(n)
}

func (r *reader) text() []byte {
	b, end, err := wire.ReadBytes(r.b, r.at, len(r.b))
	if err != api.OK {
		r.broken = true
		return nil
	}
	r.at = end
	return b
}
