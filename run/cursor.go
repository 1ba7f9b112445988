package run

import (
	"sort"

	"strata/api"
	"strata/block"
	"strata/cell"
)

// Cursor goes through a run.
type Cursor struct {
	run   *Run
	next  int          // the number of the block that is read next
	from  *api.Entry   // what is ahead of it in that block is passed over; nil: nothing is
	block *block.Block // the one that the next entry stands in; nil: it is not read yet
	at    int          // the number of the next entry in it
	err   api.Errno
}

// Next is the next entry.
func (c *Cursor) Next() (e api.Entry, more bool, err api.Errno) {
	// Whichever way a broken block was met, it is told here, and held for good.
	defer func() { c.err = err }()
	if c.err != api.OK {
		return api.Entry{}, false, c.err
	}
	if err := enter(c); err != api.OK || c.block == nil {
		return api.Entry{}, false, err
	}
	e, _ = c.block.At(c.at)
	c.at++
	if c.at == c.block.Len() {
		c.block = nil
	}
	return e, true, api.OK
}

// enter reads the block that the next entry stands in, if that is not done yet; at the end there is none. (It is no method: a cursor has just the one that a source has.)
func enter(c *Cursor) api.Errno {
	if c.block != nil || c.next == len(c.run.index) {
		return api.OK
	}
	b, sound := c.run.read(c.next)
	if !sound {
		return api.ErrBroken
	}
	c.block, c.at = b, 0
	c.next++
	if c.from != nil {
		c.at = firstNotAhead(b, *c.from)
		c.from = nil
	}
	return api.OK
}

// firstNotAhead is the number of the first entry that is not ahead of e, which need be no entry and so has no key to seek by.
func firstNotAhead(b *block.Block, e api.Entry) int {
	return sort.Search(b.Len(), func(i int) bool {
		x, _ := b.At(i)
		return cell.Compare(x, e) >= 0
	})
}
