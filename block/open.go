package block

import (
	"bytes"

	"strata/api"
	"strata/cell"
	"strata/wire"
)

// Block is a block that was read.
type Block struct {
	restart int
	count   int
	entries []byte // as they are written
	places  []byte // of the restarts, as they are written
}

// Open reads a block.
func Open(b []byte) (*Block, api.Errno) {
	if len(b) > api.MaxBlock {
		return nil, api.ErrLong
	}
	if len(b) < footSize {
		return nil, api.ErrBlock
	}
	summed := len(b) - wordSize
	if readSum(b[summed:]) != wire.Sum(b[:summed]) {
		return nil, api.ErrBlockSum
	}
	out, fits := split(b)
	if !fits || !out.sound() {
		return nil, api.ErrBlock
	}
	return out, api.OK
}

// split parts a copy of a block's bytes as its foot says; false: they cannot be parted so.
func split(b []byte) (*Block, bool) {
	foot := len(b) - footSize
	count, restart := readWord(b[foot:]), int(b[foot+wordSize])
	if count == 0 || !mayRestart(restart) {
		return nil, false
	}
	restarts := (count + restart - 1) / restart
	places := foot - wordSize*restarts
	if places < 0 {
		return nil, false
	}
	own := bytes.Clone(b[:foot])
	return &Block{restart: restart, count: count, entries: own[:places], places: own[places:]}, true
}

// sound tells whether the entries, and the places of the restarts, are written just as a builder writes them.
func (b *Block) sound() bool {
	var last []byte
	end, all := b.walk(0, 0, func(x item) bool {
		fits := b.fits(x, last)
		last = append(last[:0], x.key...)
		return fits
	})
	return all && end == len(b.entries)
}

// fits tells whether a builder would have written an item so behind the key last.
func (b *Block) fits(x item, last []byte) bool {
	if bytes.Compare(last, x.key) >= 0 || cell.Check(x.entry()) != api.OK {
		return false
	}
	if x.number%b.restart == 0 {
		return x.shared == 0 && x.place == b.place(x.number/b.restart)
	}
	return x.shared == common(last, x.key)
}
