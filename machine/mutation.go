package machine

import (
	"bytes"

	"strata/api"
	"strata/retain"
	"strata/wire"
)

// perIndex: so many Seqs has the command of an index.
const perIndex = 16

// entryKinds are those of the entries that ops make.
var entryKinds = [...]int{
	api.OPut:  api.KPut,
	api.OCell: api.KCell,
	api.OCol:  api.KCol,
	api.OFam:  api.KFam,
	api.OAdd:  api.KPut,
}

// mutation is one that is being done.
type mutation struct {
	step  *step
	row   []byte
	made  []api.Entry // by the ops so far
	sum   int         // of the last OAdd so far
	fault api.Errno   // of the tree, which could not be read: then nothing else counts
}

// mutate does all of the ops, if the conditions hold and no op is refused.
func (s *step) mutate(c api.Command) (api.Reply, api.Errno) {
	x := &mutation{step: s, row: c.Row}
	reply := x.goThrough(c)
	if x.fault != api.OK {
		return api.Reply{}, x.fault
	}
	if reply.Held {
		s.entries = x.made
	}
	return reply, api.OK
}

func (x *mutation) goThrough(c api.Command) api.Reply {
	for _, cond := range c.Conds {
		if !holds(cond, x.look(cond.Fam, cond.Qual)) {
			return api.Reply{}
		}
	}
	for _, op := range c.Ops {
		if err := x.take(op); err != api.OK {
			return api.Reply{Err: err}
		}
	}
	return api.Reply{Held: true, Value: x.sum}
}

func holds(c api.Cond, g glance) bool {
	if c.Kind == api.CAbsent || !g.is {
		return c.Kind == api.CAbsent && !g.is
	}
	switch place := bytes.Compare(g.value, c.Value); c.Kind {
	case api.CSame:
		return place == 0
	case api.COther:
		return place != 0
	case api.CBelow:
		return place < 0
	case api.CAbove:
		return place > 0
	}
	return c.Kind == api.CThere
}

// take makes the entry of the next op, if it is not refused.
func (x *mutation) take(op api.Op) api.Errno {
	e := api.Entry{Row: x.row, Fam: op.Fam, Qual: op.Qual, Ts: op.Ts, Kind: entryKinds[op.Kind], Value: op.Value}
	e.Seq = perIndex*x.step.index + len(x.made)
	if e.Ts == 0 {
		e.Ts = x.step.clock
	}
	if e.Ts <= x.step.low {
		return api.ErrLate
	}
	if op.Kind == api.OAdd {
		if err := x.add(&e, op.Delta); err != api.OK {
			return err
		}
	}
	x.made = append(x.made, e)
	return api.OK
}

// add puts the sum into an OAdd's entry, and brings it to where it is seen.
func (x *mutation) add(e *api.Entry, delta int) api.Errno {
	g := x.look(e.Fam, e.Qual)
	sum, is := 0, true
	if g.is {
		sum, is = readNumber(g.value)
	}
	sum += delta
	// What is above the greatest int has wrapped round, and is below 0 too.
	if !is || sum < 0 {
		return api.ErrNumber
	}
	// Nothing is refused: these are a tree's entries, and such as it takes.
	top, _ := retain.Top(x.step.machine.schema, x.step.clock, g.seen...)
	e.Ts = max(e.Ts, top)
	e.Value, _ = wire.Rising(sum)
	x.sum = sum
	return api.OK
}

// readNumber is the number that a value is; false: it is none.
func readNumber(value []byte) (int, bool) {
	n, end, err := wire.ReadRising(value, 0)
	return n, err == api.OK && end == len(value)
}

// look looks at a column, with the ops so far laid over what there is.
func (x *mutation) look(fam int, qual []byte) glance {
	g, err := x.step.machine.look(column{x.row, fam, qual}, x.made)
	if err != api.OK {
		x.fault = err
	}
	return g
}
