package tree

import (
	"bytes"
	"slices"

	"strata/api"
	"strata/manifest"
	"strata/mem"
)

// Image is what was flushed last.
func (t *Tree) Image() (api.Image, api.Errno) {
	if t.isDown() {
		return api.Image{}, api.ErrDown
	}
	v := t.version
	x := api.Image{Index: v.Flushed, Clock: v.Clock, Low: v.Low, State: bytes.Clone(v.State)}
	for _, p := range t.parts {
		x.Runs = append(x.Runs, bytes.Clone(p.data))
	}
	return x, api.OK
}

// Install puts an image in the place of all.
func (t *Tree) Install(x api.Image) api.Errno {
	switch {
	case t.isDown():
		return api.ErrDown
	case !within(x.Index, t.applied+1, api.MaxIndex):
		return api.ErrIndex
	case !t.timesHold(x.Clock, x.Low):
		return api.ErrClock
	case len(x.State) > api.MaxState:
		return api.ErrState
	}
	parts, sound := t.partsOf(x.Runs)
	if !sound {
		return api.ErrImage
	}
	next := api.Version{Flushed: x.Index, Low: x.Low, Clock: x.Clock, State: bytes.Clone(x.State)}
	// Whether the runs' sealed numbers fit with one another, and with the image's, is what a version is asked, too.
	if manifest.Check(t.following(next, parts, len(parts))) != api.OK {
		return api.ErrImage
	}
	olds := numsOf(t.parts)
	oldestFirst := slices.Clone(parts)
	slices.Reverse(oldestFirst)
	if err := t.turn(next, parts, oldestFirst); err != api.OK {
		return err
	}
	t.memory = mem.New()
	t.applied, t.clock, t.low = x.Index, x.Clock, x.Low
	return t.letGo(olds)
}

// partsOf are runs by their bytes, the newest first, with the version's next numbers, the oldest the first of them; false: they are too many, or one is not sound.
func (t *Tree) partsOf(runs [][]byte) ([]*part, bool) {
	if len(runs) > api.MaxRuns {
		return nil, false
	}
	var out []*part
	for i, data := range runs {
		p, sound := t.soundPart(t.version.Next+len(runs)-1-i, bytes.Clone(data))
		if !sound {
			return nil, false
		}
		out = append(out, p)
	}
	return out, true
}
