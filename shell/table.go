package shell

import (
	"strings"

	"strata/api"
	"strata/cell"
	"strata/machine"
	"strata/tree"
)

// prefix is that of the table's files.
const prefix = "k."

func readTable(w *words) deed {
	s := api.Schema{Fams: []api.Family{readFamily(w)}}
	for w.skip(comma) {
		s.Fams = append(s.Fams, readFamily(w))
	}
	return func(x *Shell) ([]string, api.Errno) {
		if err := cell.CheckSchema(s); err != api.OK {
			return nil, err
		}
		x.schema = s
		return nil, api.OK
	}
}

// readFamily reads a family whose name is no piece of the line, which is not kept.
func readFamily(w *words) api.Family {
	return api.Family{Name: strings.Clone(w.name()), Max: w.number(), TTL: w.number()}
}

func readOpen(w *words) deed {
	o := api.Options{Block: w.number(), Bits: w.number(), Mem: w.number(), Stall: w.number()}
	return func(x *Shell) ([]string, api.Errno) { return x.open(o) }
}

func (x *Shell) open(o api.Options) ([]string, api.Errno) {
	t, err := tree.Open(x.disk, prefix, x.schema, o)
	if err != api.OK {
		return nil, err
	}
	m, err := machine.Open(t)
	if err != api.OK {
		return nil, err
	}
	x.tree, x.machine = t, m
	return numbers(t.Applied(), t.Clock(), t.Low()), api.OK
}

func (x *Shell) close() ([]string, api.Errno) {
	defer x.letGo()
	x.endJob()
	return nil, api.OK
}

// letGo leaves nothing open.
func (x *Shell) letGo() { x.tree, x.machine, x.job = nil, nil, nil }

func (x *Shell) flush() ([]string, api.Errno) {
	x.endJob()
	return nil, x.machine.Flush()
}

// verify tells no number of a run that is not sound: its error is the answer.
func (x *Shell) verify(workers int) ([]string, api.Errno) {
	_, err := x.tree.Verify(workers)
	return nil, err
}

func (x *Shell) arm(n int) ([]string, api.Errno) {
	x.disk.Arm(n)
	return nil, api.OK
}

func readCrash(w *words) deed {
	var cuts []int
	for len(w.left) > 0 {
		cuts = append(cuts, w.number())
	}
	return func(x *Shell) ([]string, api.Errno) {
		defer x.letGo()
		return numbers(x.disk.Crash(cuts...)), api.OK
	}
}

func readFlip(w *words) deed {
	name, bit := string(w.literal()), w.number()
	return func(x *Shell) ([]string, api.Errno) { return nil, x.disk.Flip(name, bit) }
}
