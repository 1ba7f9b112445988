package block

import (
	"bytes"
	"iter"
	"sort"

	"strata/api"
	"strata/cell"
)

// item is an entry that a walk comes by.
type item struct {
	number int
	place  int // of its first byte
	shared int
	key    []byte // it lasts until the walk goes on
	value  []byte
}

// entry is the item's entry, in new memory; of a key that is none it is no entry either.
func (x item) entry() api.Entry {
	e, _ := cell.ParseKey(x.key)
	e.Value = bytes.Clone(x.value)
	return e
}

// walk goes from a restart, of that number and at that place, on to the last entry while ask says so: where it came to, and whether that was the end.
func (b *Block) walk(number, at int, ask func(item) bool) (int, bool) {
	var key []byte
	for ; number < b.count; number++ {
		r, there := readRecord(b.entries, at)
		if !there || r.shared > len(key) {
			return at, false
		}
		key = append(key[:r.shared], r.rest...)
		if !ask(item{number: number, place: at, shared: r.shared, key: key, value: r.value}) {
			return at, false
		}
		at = r.end
	}
	return at, true
}

// place is where the restart of that number stands.
func (b *Block) place(restart int) int { return readWord(b.places[restart*wordSize:]) }

// Len is how many entries it has.
func (b *Block) Len() int { return b.count }

// At is one of them.
func (b *Block) At(i int) (api.Entry, api.Errno) {
	if i < 0 || i >= b.count {
		return api.Entry{}, api.ErrArg
	}
	var e api.Entry
	restart := i / b.restart
	b.walk(restart*b.restart, b.place(restart), func(x item) bool {
		if x.number < i {
			return true
		}
		e = x.entry()
		return false
	})
	return e, api.OK
}

// Seek is the number of the first entry whose key is not below.
func (b *Block) Seek(key []byte) int {
	next := b.seekRestart(key)
	if next == 0 {
		return 0
	}
	// The restart ahead of that one is below key. No key need be put together from here on: of the entry ahead, which is always below, it is enough to know how many first bytes it has in common with key.
	number, at, same := (next-1)*b.restart, b.place(next-1), 0
	end := min(next*b.restart, b.count)
scan:
	for ; number < end; number++ {
		r, _ := readRecord(b.entries, at)
		at = r.end
		switch {
		case r.shared > same:
			continue scan // it parts from key where the one ahead does
		case r.shared < same:
			break scan // it is above the one ahead where that is still like key
		case bytes.Compare(r.rest, key[same:]) >= 0:
			break scan
		}
		same += common(r.rest, key[same:])
	}
	return number
}

// seekRestart is the number of the first restart whose key is not below; how many there are, if there is none.
func (b *Block) seekRestart(key []byte) int {
	return sort.Search(len(b.places)/wordSize, func(restart int) bool {
		r, _ := readRecord(b.entries, b.place(restart))
		return bytes.Compare(r.rest, key) >= 0
	})
}

// All goes through all entries.
func (b *Block) All() iter.Seq[api.Entry] {
	return func(yield func(api.Entry) bool) {
		b.walk(0, 0, func(x item) bool { return yield(x.entry()) })
	}
}
