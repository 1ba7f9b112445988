package block

import (
	"bytes"

	"strata/api"
	"strata/cell"
)

// Builder makes a block.
type Builder struct {
	restart int
	count   int
	entries []byte // as they are written
	places  []byte // of the restarts, as they are written
	last    []byte // the key of the last entry
}

// Begin is a builder with a full key at each restart-th entry.
func Begin(restart int) (*Builder, api.Errno) {
	if !mayRestart(restart) {
		return nil, api.ErrArg
	}
	return &Builder{restart: restart}, api.OK
}

// Add adds the next entry in order.
func (b *Builder) Add(e api.Entry) api.Errno {
	key, err := cell.Key(e)
	if err != api.OK {
		return err
	}
	// Keys sort as their entries do, and no key is empty, so the first one is behind the last one of none.
	if bytes.Compare(key, b.last) <= 0 {
		return api.ErrOrder
	}
	places, shared := b.places, common(b.last, key)
	if b.count%b.restart == 0 {
		places, shared = appendWord(places, len(b.entries)), 0
	}
	entries := appendRecord(b.entries, shared, key[shared:], e.Value)
	// What is refused stands in spare room alone, where the next one is written over it.
	if sizeOf(entries, places) > api.MaxBlock {
		return api.ErrBlockFull
	}
	b.entries, b.places, b.last = entries, places, key
	b.count++
	return api.OK
}

func sizeOf(entries, places []byte) int { return len(entries) + len(places) + footSize }

// Size is how long the block would be.
func (b *Builder) Size() int {
	if b.count == 0 {
		return 0
	}
	return sizeOf(b.entries, b.places)
}

// Count is how many entries there are.
func (b *Builder) Count() int { return b.count }

// Finish is the block.
func (b *Builder) Finish() ([]byte, api.Errno) {
	if b.count == 0 {
		return nil, api.ErrBlockEmpty
	}
	out := make([]byte, 0, b.Size())
	out = append(out, b.entries...)
	out = append(out, b.places...)
	out = appendWord(out, b.count)
	out = append(out, byte(b.restart))
	return appendSum(out), api.OK
}

// Build is the block of these entries.
func Build(restart int, l ...api.Entry) ([]byte, api.Errno) {
	b, err := Begin(restart)
	if err != api.OK {
		return nil, err
	}
	for _, e := range l {
		if err := b.Add(e); err != api.OK {
			return nil, err
		}
	}
	return b.Finish()
}
