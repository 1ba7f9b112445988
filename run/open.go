package run

import (
	"bytes"

	"strata/api"
	"strata/bloom"
	"strata/cell"
	"strata/wire"
)

// foot is what stands in a run's last bytes, in this order.
type foot struct {
	count  int
	sealed int // Index
	low    int
	clock  int
	blocks int
	filter int // where it begins
	index  int // where it begins
}

// frame is the foot's bytes: no number of it is below 0, and seven are no long body.
func (f foot) frame() []byte {
	var body []byte
	for _, n := range []int{f.count, f.sealed, f.low, f.clock, f.blocks, f.filter, f.index} {
		b, _ := wire.Rising(n)
		body = append(body, b...)
	}
	out, _ := wire.Frame(body)
	return out
}

// Open reads a run's foot, index and filter.
func Open(b []byte) (*Run, api.Errno) {
	if len(b) > api.MaxRunBytes {
		return nil, api.ErrLong
	}
	f, is := readFoot(b)
	if !is {
		return nil, api.ErrRun
	}
	filter, is := readFilter(b[f.filter:f.index])
	if !is {
		return nil, api.ErrRun
	}
	index, is := readIndex(b[f.index:len(b)-footSize], f)
	if !is {
		return nil, api.ErrRun
	}
	return &Run{foot: f, bytes: len(b), blocks: bytes.Clone(b[:f.filter]), filter: bytes.Clone(filter), index: index}, api.OK
}

// readFoot reads the foot of what begins as a run does; false: it is none that Write could have written.
func readFoot(b []byte) (foot, bool) {
	if len(b) < footSize || !bytes.HasPrefix(b, []byte(magic)) {
		return foot{}, false
	}
	body, end, err := wire.ReadFrame(b, len(b)-footSize)
	if err != api.OK || end != len(b) {
		return foot{}, false
	}
	f, is := readNumbers(body)
	if !is || !f.fits(len(b)) {
		return foot{}, false
	}
	return f, true
}

// readNumbers reads a foot's seven numbers; false: one of them is none.
func readNumbers(body []byte) (foot, bool) {
	var f foot
	at := 0
	for _, n := range []*int{&f.count, &f.sealed, &f.low, &f.clock, &f.blocks, &f.filter, &f.index} {
		v, end, err := wire.ReadRising(body, at)
		if err != api.OK {
			return foot{}, false
		}
		*n, at = v, end
	}
	return f, true
}

// fits tells whether a run of so many bytes may have this foot.
func (f foot) fits(size int) bool {
	return maySeal(f.sealed, f.low, f.clock) && f.blocks >= 1 && f.count >= f.blocks &&
		f.filter >= len(magic) && f.filter <= f.index-sumSize && f.index <= size-footSize-sumSize
}

// readFilter is a filter without its sum, a piece of b; false: there is none.
func readFilter(b []byte) ([]byte, bool) {
	filter, right := summed(b)
	return filter, right && (len(filter) == 0 || bloom.Check(filter) == api.OK)
}

// readIndex reads what the index, with its sum, says of each block; false: it is not as the foot wants it.
func readIndex(b []byte, f foot) ([]span, bool) {
	body, right := summed(b)
	blocks, at, err := wire.ReadUint(body, 0)
	if !right || err != api.OK || blocks != uint64(f.blocks) {
		return nil, false
	}
	var index []span
	place := len(magic)
	for range f.blocks {
		s, end, is := readSpan(body, at, place, f.filter)
		if !is || len(index) > 0 && cell.Compare(index[len(index)-1].last, s.first) >= 0 {
			return nil, false
		}
		index = append(index, s)
		at, place = end, s.to
	}
	return index, at == len(body) && place == f.filter
}

// readSpan reads what the index says of the block that begins at from and ends at most at to; false: there may be no such block.
func readSpan(b []byte, at, from, to int) (span, int, bool) {
	first, at, is := readKey(b, at)
	if !is {
		return span{}, 0, false
	}
	last, at, is := readKey(b, at)
	if !is || cell.Compare(first, last) > 0 {
		return span{}, 0, false
	}
	size, at, err := wire.ReadUint(b, at)
	if err != api.OK || size == 0 || size > uint64(to-from) {
		return span{}, 0, false
	}
	return span{first: first, last: last, from: from, to: from + int(size)}, at, true
}

func readKey(b []byte, at int) (api.Entry, int, bool) {
	key, at, err := wire.ReadBytes(b, at, len(b))
	if err != api.OK {
		return api.Entry{}, 0, false
	}
	e, err := cell.ParseKey(key)
	return e, at, err == api.OK
}

// summed is what stands ahead of a sum, as a piece of b; false: the sum is wrong. There are at least its four bytes.
func summed(b []byte) ([]byte, bool) {
	body, sum := b[:len(b)-sumSize], b[len(b)-sumSize:]
	right := wire.Sum(body) == uint32(sum[0])|uint32(sum[1])<<8|uint32(sum[2])<<16|uint32(sum[3])<<24
	return body, right
}
