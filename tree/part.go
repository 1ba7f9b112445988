package tree

import (
	"bytes"

	"strata/api"
	"strata/manifest"
	"strata/run"
)

// part is a run of a version: what the version says of it, its bytes, and the same opened. It is never changed.
type part struct {
	meta api.RunMeta
	data []byte
	run  *run.Run
}

// soundPart is a run of a number by its bytes, which are kept; false: they are no sound run of this schema.
func (t *Tree) soundPart(num int, data []byte) (*part, bool) {
	r, err := run.Open(data)
	if err != api.OK {
		return nil, false
	}
	if _, err := r.Verify(); err != api.OK || !familiesHold(r, len(t.schema.Fams)) {
		return nil, false
	}
	return numbered(num, data, r), true
}

// familiesHold is asked of a run whose blocks are sound: all of it can be read.
func familiesHold(r *run.Run, families int) bool {
	c := r.All()
	for {
		e, more, _ := c.Next()
		if !more {
			return true
		}
		if e.Fam >= families {
			return false
		}
	}
}

// newPart writes entries as a run with these things sealed in it, and the version's next number. It is on no disk yet.
func (t *Tree) newPart(index, low, clock int, l []api.Entry) (*part, api.Errno) {
	o := api.RunOpts{Block: t.options.Block, Bits: t.options.Bits, Index: index, Low: low, Clock: clock}
	data, err := run.Write(o, l...)
	if err != api.OK {
		return nil, err
	}
	r, err := run.Open(data)
	if err != api.OK {
		return nil, err
	}
	return numbered(t.version.Next, data, r), api.OK
}

func numbered(num int, data []byte, r *run.Run) *part {
	m := r.Meta()
	m.Num = num
	return &part{meta: m, data: data, run: r}
}

// namedPart is the run that a version says this of, by its file's bytes; false: it is not sound.
func (t *Tree) namedPart(m api.RunMeta, data []byte) (*part, bool) {
	p, sound := t.soundPart(m.Num, data)
	return p, sound && sameMeta(p.meta, m)
}

// readRun reads the file of a run; of one that is not there no byte, which is no run either.
func (t *Tree) readRun(num int) []byte {
	name := manifest.RunName(t.prefix, num)
	size, err := t.disk.Size(name)
	if err != api.OK {
		return nil
	}
	data, _ := t.disk.Read(name, 0, size)
	return data
}

func sameMeta(a, b api.RunMeta) bool {
	return a.Num == b.Num && a.Count == b.Count && a.Index == b.Index && a.Low == b.Low && a.Clock == b.Clock &&
		a.Bytes == b.Bytes && bytes.Equal(a.First, b.First) && bytes.Equal(a.Last, b.Last)
}

func copyMeta(m api.RunMeta) api.RunMeta {
	m.First, m.Last = bytes.Clone(m.First), bytes.Clone(m.Last)
	return m
}

func metasOf(parts []*part) []api.RunMeta {
	var out []api.RunMeta
	for _, p := range parts {
		out = append(out, copyMeta(p.meta))
	}
	return out
}

func numsOf(parts []*part) []int {
	var out []int
	for _, p := range parts {
		out = append(out, p.meta.Num)
	}
	return out
}
