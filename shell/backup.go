package shell

import (
	"slices"

	"strata/api"
	"strata/tree"
	"strata/wire"
)

func (x *Shell) keepBackup() ([]string, api.Errno) {
	image, err := x.tree.Image()
	if err != api.OK {
		return nil, err
	}
	b, err := writeBackup(image)
	if err != api.OK {
		return nil, err
	}
	x.backup = b
	return numbers(len(b)), api.OK
}

// restore leaves nothing open: the tree is let go of again.
func (x *Shell) restore() ([]string, api.Errno) {
	image, is := readBackup(x.backup)
	if !is {
		return nil, api.ErrBackup
	}
	t, err := tree.Open(x.disk, prefix, x.schema, api.Options{Block: 4096, Bits: 10, Mem: 65536, Stall: 8})
	if err != api.OK {
		return nil, err
	}
	return nil, t.Install(image)
}

// writeBackup is a head, and the runs behind it.
func writeBackup(x api.Image) ([]byte, api.Errno) {
	head := appendNumbers(nil, x.Index, x.Clock, x.Low)
	head = append(head, wire.Bytes(x.State)...)
	head = appendNumbers(head, len(x.Runs))
	for _, run := range x.Runs {
		head = appendNumbers(head, len(run))
	}
	frame, err := wire.Frame(head)
	if err != api.OK {
		return nil, err
	}
	return append(frame, slices.Concat(x.Runs...)...), api.OK
}

func appendNumbers(out []byte, l ...int) []byte {
	for _, n := range l {
		out = append(out, wire.Uint(uint64(n))...)
	}
	return out
}

// readBackup reads a backup's bytes, of which its runs are pieces; false: they are none. Whether a tree would take it is not asked.
func readBackup(b []byte) (api.Image, bool) {
	head, end, err := wire.ReadFrame(b, 0)
	if err != api.OK {
		return api.Image{}, false
	}
	r := &reader{b: head}
	x := api.Image{Index: r.number(api.MaxIndex), Clock: r.number(api.MaxTime), Low: r.number(api.MaxTime), State: r.text(api.MaxState)}
	left := b[end:]
	for range r.number(api.MaxRuns) {
		size := r.number(api.MaxRunBytes)
		if size > len(left) {
			return api.Image{}, false
		}
		x.Runs = append(x.Runs, left[:size])
		left = left[size:]
	}
	if r.broken || r.at < len(head) || len(left) > 0 {
		return api.Image{}, false
	}
	return x, true
}

// reader takes parts off bytes, from the left.
type reader struct {
	b      []byte
	at     int
	broken bool // a part is not there, or above its bound: then none counts
}

func (r *reader) number(most uint64) int {
	n, end, err := wire.ReadUint(r.b, r.at)
	if err != api.OK || n > most {
		r.broken = true
		return 0
	}
	r.at = end
	return int(n)
}

func (r *reader) text(most int) []byte {
	b, end, err := wire.ReadBytes(r.b, r.at, most)
	if err != api.OK {
		r.broken = true
		return nil
	}
	r.at = end
	return b
}
