package tree

import (
	"bytes"
	"slices"

	"strata/api"
	"strata/cell"
	"strata/manifest"
	"strata/mem"
)

// Flush writes the memtable as a run, with what stands above.
func (t *Tree) Flush(state []byte) api.Errno {
	some := t.memory.Len() > 0
	switch {
	case t.isDown():
		return api.ErrDown
	case len(state) > api.MaxState:
		return api.ErrState
	case some && len(t.parts) >= api.MaxRuns:
		return api.ErrFull
	}
	var fresh []*part
	if some {
		p, err := t.newPart(t.applied, t.low, t.clock, slices.Collect(t.memory.All()))
		if err != api.OK {
			return err
		}
		fresh = append(fresh, p)
	}
	next := t.version
	next.Flushed, next.Low, next.Clock, next.State = t.applied, t.low, t.clock, bytes.Clone(state)
	if err := t.turn(next, slices.Concat(fresh, t.parts), fresh); err != api.OK {
		return err
	}
	t.memory = mem.New()
	return api.OK
}

// Replace puts one run of these entries in the place of some.
func (t *Tree) Replace(olds []int, l ...api.Entry) api.Errno {
	if t.isDown() {
		return api.ErrDown
	}
	if !t.areRuns(olds) {
		return api.ErrNoRun
	}
	newest := t.newestOf(olds)
	if err := t.checkReplacing(newest.meta.Index, l); err != api.OK {
		return err
	}
	var fresh []*part
	if len(l) > 0 {
		p, err := t.newPart(newest.meta.Index, newest.meta.Low, newest.meta.Clock, l)
		if err != api.OK {
			return err
		}
		fresh = append(fresh, p)
	}
	if err := t.turn(t.version, t.partsWith(fresh, newest, olds), fresh); err != api.OK {
		return err
	}
	return t.letGo(olds)
}

// areRuns tells whether these are numbers of the version's runs, at least one, and each once.
func (t *Tree) areRuns(nums []int) bool {
	have := numsOf(t.parts)
	for i, n := range nums {
		if slices.Contains(nums[:i], n) || !slices.Contains(have, n) {
			return false
		}
	}
	return len(nums) > 0
}

// newestOf is asked of numbers that are runs.
func (t *Tree) newestOf(nums []int) *part {
	i := slices.IndexFunc(t.parts, func(p *part) bool { return slices.Contains(nums, p.meta.Num) })
	return t.parts[i]
}

// checkReplacing looks at entries that are to be a run of that index.
func (t *Tree) checkReplacing(index int, l []api.Entry) api.Errno {
	for i, e := range l {
		if err := t.checkEntry(e); err != api.OK {
			return err
		}
		if i > 0 && cell.Compare(l[i-1], e) >= 0 {
			return api.ErrOrder
		}
		if indexOf(e) > index {
			return api.ErrSeq
		}
	}
	return api.OK
}

// partsWith is the version's runs with the fresh ones in the place of the newest of the olds, and without all of these.
func (t *Tree) partsWith(fresh []*part, newest *part, olds []int) []*part {
	var out []*part
	for _, p := range t.parts {
		if p == newest {
			out = append(out, fresh...)
		}
		if !slices.Contains(olds, p.meta.Num) {
			out = append(out, p)
		}
	}
	return out
}

// turn puts a version with these runs in the place of the tree's: the fresh ones are written, in their order, and the manifest is swapped. If anything is refused, all is as before.
func (t *Tree) turn(next api.Version, parts, fresh []*part) (err api.Errno) {
	var written []string
	// If power fails at a Delete here, what was refused is still what is told.
	defer func() {
		if err != api.OK {
			t.takeBack(written)
		}
		t.down = t.down || t.disk.Down()
	}()
	for _, p := range fresh {
		name := manifest.RunName(t.prefix, p.meta.Num)
		if err := t.disk.Create(name); err != api.OK {
			return err
		}
		written = append(written, name)
		if err := t.fill(name, p.data); err != api.OK {
			return err
		}
	}
	next = t.following(next, parts, len(fresh))
	if err := manifest.Swap(t.disk, t.prefix, next); err != api.OK {
		return err
	}
	t.version, t.parts = next, parts
	return api.OK
}

// following makes of a version one that may follow the tree's, with these runs, of which so many have new numbers.
func (t *Tree) following(v api.Version, parts []*part, fresh int) api.Version {
	v.Gen, v.Next, v.Runs = t.version.Gen+1, t.version.Next+fresh, metasOf(parts)
	return v
}

// fill writes a run's bytes so that they are safe ahead of the manifest's naming them.
func (t *Tree) fill(name string, data []byte) api.Errno {
	if err := t.disk.Append(name, data); err != api.OK {
		return err
	}
	return t.disk.Sync(name)
}

func (t *Tree) takeBack(written []string) {
	for _, name := range slices.Backward(written) {
		t.disk.Delete(name)
	}
}

// letGo deletes the files of runs that are in no version any more, as soon as no view names them.
func (t *Tree) letGo(nums []int) api.Errno {
	t.left = append(t.left, nums...)
	slices.Sort(t.left)
	slices.Reverse(t.left)
	return t.clean()
}

// clean deletes what is left and not held. What it can't delete the next Open sweeps.
func (t *Tree) clean() api.Errno {
	var held []int
	for _, num := range t.left {
		if t.isHeld(num) {
			held = append(held, num)
		} else if t.disk.Delete(manifest.RunName(t.prefix, num)) == api.ErrDown {
			t.down = true
			return api.ErrDown
		}
	}
	t.left = held
	return api.OK
}

func (t *Tree) isHeld(num int) bool {
	for _, v := range t.views {
		if v.find(num) != nil {
			return true
		}
	}
	return false
}
