package run

import (
	"bytes"

	"strata/api"
	"strata/block"
	"strata/bloom"
	"strata/cell"
	"strata/wire"
)

const (
	magic    = "STRATA-R"
	sumSize  = 4
	footSize = 68 // a frame of seven numbers of eight bytes
)

// opsOfCommand is how many Seqs an index has.
const opsOfCommand = 16

// Write is the run of these entries, which are in order.
func Write(o api.RunOpts, l ...api.Entry) ([]byte, api.Errno) {
	if !mayBe(o) {
		return nil, api.ErrOpts
	}
	if len(l) == 0 {
		return nil, api.ErrEmpty
	}
	if err := checkAll(o.Index, l); err != api.OK {
		return nil, err
	}
	out, index, blocks, fits := layBlocks(o.Block, l)
	if !fits {
		return nil, api.ErrLong
	}
	f := foot{count: len(l), sealed: o.Index, low: o.Low, clock: o.Clock, blocks: blocks}
	f.filter = len(out)
	out = appendSummed(out, filterOf(o.Bits, rowsOf(l)))
	f.index = len(out)
	out = appendSummed(out, append(wire.Uint(uint64(blocks)), index...))
	out = append(out, f.frame()...)
	if len(out) > api.MaxRunBytes {
		return nil, api.ErrLong
	}
	return out, api.OK
}

func mayBe(o api.RunOpts) bool {
	return o.Block >= api.MinTarget && o.Block <= api.MaxTarget && o.Bits >= 0 && o.Bits <= api.MaxBits && maySeal(o.Index, o.Low, o.Clock)
}

func maySeal(index, low, clock int) bool {
	return index >= 0 && index <= api.MaxIndex && clock >= 1 && clock <= api.MaxTime && low >= 0 && low < clock
}

// lastSeq is the greatest Seq that an entry may have where this index is sealed.
func lastSeq(sealed int) int { return sealed*opsOfCommand + opsOfCommand - 1 }

func checkAll(sealed int, l []api.Entry) api.Errno {
	for i, e := range l {
		if err := cell.Check(e); err != api.OK {
			return err
		}
		if e.Seq > lastSeq(sealed) {
			return api.ErrSeq
		}
		if i > 0 && cell.Compare(l[i-1], e) >= 0 {
			return api.ErrOrder
		}
	}
	return api.OK
}

// layBlocks lays a run's beginning and its blocks, and what its index says of them, and tells how many they are; false: they are too long already.
func layBlocks(target int, l []api.Entry) (out, index []byte, blocks int, fits bool) {
	out = []byte(magic)
	for len(l) > 0 {
		b, n := nextBlock(target, l)
		out = append(out, b...)
		// A run of more rows than a filter takes is too long here, and so is never asked for one.
		if len(out) > api.MaxRunBytes {
			return nil, nil, 0, false
		}
		index = appendSpan(index, l[0], l[n-1], len(b))
		blocks++
		l = l[n:]
	}
	return out, index, blocks, true
}

// nextBlock is the block that begins with the first entry, and how many it has. It is never full: the greatest target and the greatest entry together are below MaxBlock.
func nextBlock(target int, l []api.Entry) ([]byte, int) {
	b, _ := block.Begin(api.MaxRestart)
	for b.Count() < len(l) && b.Size() < target {
		if b.Add(l[b.Count()]) != api.OK {
			break
		}
	}
	out, _ := b.Finish()
	return out, b.Count()
}

func appendSpan(out []byte, first, last api.Entry, size int) []byte {
	for _, e := range []api.Entry{first, last} {
		key, _ := cell.Key(e)
		out = append(out, wire.Bytes(key)...)
	}
	return append(out, wire.Uint(uint64(size))...)
}

// rowsOf has each row of entries in order once.
func rowsOf(l []api.Entry) [][]byte {
	var rows [][]byte
	for _, e := range l {
		rows = appendRow(rows, e.Row)
	}
	return rows
}

func appendRow(rows [][]byte, row []byte) [][]byte {
	if n := len(rows); n > 0 && bytes.Equal(rows[n-1], row) {
		return rows
	}
	return append(rows, row)
}

func filterOf(bits int, rows [][]byte) []byte {
	if bits == 0 {
		return nil
	}
	filter, _ := bloom.Build(bits, rows...)
	return filter
}

func appendSummed(out, part []byte) []byte {
	sum := wire.Sum(part)
	out = append(out, part...)
	return append(out, byte(sum), byte(sum>>8), byte(sum>>16), byte(sum>>24))
}
