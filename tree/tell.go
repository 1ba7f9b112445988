package tree

import (
	"bytes"

	"strata/api"
)

// Runs tells the runs, the newest first.
func (t *Tree) Runs() []api.RunMeta { return metasOf(t.parts) }

// Mem tells the memtable's entries and bytes.
func (t *Tree) Mem() (int, int) { return t.memory.Len(), t.memory.Bytes() }

// Applied is the last index that was applied.
func (t *Tree) Applied() int { return t.applied }

// Flushed is the last index that is in the runs.
func (t *Tree) Flushed() int { return t.version.Flushed }

// Clock is the clock there.
func (t *Tree) Clock() int { return t.clock }

// Low is the low there.
func (t *Tree) Low() int { return t.low }

// Sealed tells the clock and the low of the version.
func (t *Tree) Sealed() (int, int) { return t.version.Clock, t.version.Low }

// State is what stood above at the last Flush or Install.
func (t *Tree) State() []byte { return bytes.Clone(t.version.State) }

// Full tells whether the memtable is full.
func (t *Tree) Full() bool { return t.memory.Bytes() >= t.options.Mem }

// stallsAt: whoever applies may fill the memtable so many times.
const stallsAt = 4

// Stalled tells whether no more should be proposed.
func (t *Tree) Stalled() bool {
	return len(t.parts) >= t.options.Stall || t.memory.Bytes() >= stallsAt*t.options.Mem
}

// Schema is the schema.
func (t *Tree) Schema() api.Schema { return copySchema(t.schema) }
