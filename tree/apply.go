package tree

import (
	"strata/api"
	"strata/cell"
	"strata/mem"
)

// perIndex: so many Seqs has the command of an index.
const perIndex = 16

func indexOf(e api.Entry) int { return e.Seq / perIndex }

// Apply takes the entries of the next index.
func (t *Tree) Apply(index, clock, low int, l ...api.Entry) api.Errno {
	switch {
	case t.isDown():
		return api.ErrDown
	case index != t.applied+1 || index > api.MaxIndex:
		return api.ErrIndex
	case !t.timesHold(clock, low):
		return api.ErrClock
	}
	for _, e := range l {
		if err := t.checkApplied(index, low, e); err != api.OK {
			return err
		}
	}
	if anyTwice(l) {
		return api.ErrThere
	}
	// None of them is refused: a Seq of this index stands in the memtable for the first time.
	for _, e := range l {
		t.memory.Add(e)
	}
	t.applied, t.clock, t.low = index, clock, low
	return api.OK
}

// timesHold: neither the clock nor the low falls, and low stays below the clock.
func (t *Tree) timesHold(clock, low int) bool {
	return within(clock, t.clock, api.MaxTime) && within(low, t.low, clock-1)
}

func (t *Tree) checkApplied(index, low int, e api.Entry) api.Errno {
	if err := t.checkEntry(e); err != api.OK {
		return err
	}
	switch {
	case e.Ts <= low:
		return api.ErrTs
	case indexOf(e) != index:
		return api.ErrSeq
	case e.Kind == api.KHusk:
		return api.ErrKind
	}
	return api.OK
}

func (t *Tree) checkEntry(e api.Entry) api.Errno {
	if err := cell.Check(e); err != api.OK {
		return err
	}
	if e.Fam >= len(t.schema.Fams) {
		return api.ErrFam
	}
	return api.OK
}

// anyTwice tells whether two of the entries have one key.
func anyTwice(l []api.Entry) bool {
	seen := mem.New()
	for _, e := range l {
		if seen.Add(e) == api.ErrThere {
			return true
		}
	}
	return false
}
