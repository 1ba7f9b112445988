package tree

import (
	"bytes"
	"iter"
	"slices"

	"strata/api"
	"strata/mem"
	"strata/merge"
)

// View is what was there when it was pinned.
type View struct {
	tree     *Tree
	number   int
	parts    []*part
	memory   *mem.Table // with what was applied behind index, which is none of the view's
	index    int
	clock    int
	released bool
}

// Pin holds what is there now.
func (t *Tree) Pin() (*View, api.Errno) {
	if t.isDown() {
		return nil, api.ErrDown
	}
	if len(t.views) >= api.MaxPins {
		return nil, api.ErrPins
	}
	t.pinned++
	v := &View{tree: t, number: t.pinned, parts: t.parts, memory: t.memory, index: t.applied, clock: t.clock}
	t.views[v.number] = v
	return v, api.OK
}

// Pins tells how many views are held.
func (t *Tree) Pins() int { return len(t.views) }

// Release lets it go.
func (v *View) Release() {
	if v.released {
		return
	}
	t := v.tree
	delete(t.views, v.number)
	*v = View{index: v.index, clock: v.clock, released: true}
	if !t.isDown() {
		t.clean()
	}
}

// Index is up to where it goes.
func (v *View) Index() int { return v.index }

// Clock is the clock there.
func (v *View) Clock() int { return v.clock }

// Walk tells the entries of the rows from <= row < to (to without a byte: no end), in order.
func (v *View) Walk(from, to []byte) (merge.Source, api.Errno) {
	if err := v.checkRange(from, to); err != api.OK {
		return nil, err
	}
	return v.walk(from, to), api.OK
}

func (v *View) checkRange(from, to []byte) api.Errno {
	if v.released {
		return api.ErrReleased
	}
	if len(from) > api.MaxRow || len(to) > api.MaxRow {
		return api.ErrRow
	}
	return api.OK
}

func (v *View) walk(from, to []byte) merge.Source {
	// No entry's family is below 0: this stands ahead of all entries of its row.
	first := api.Entry{Row: from, Fam: -1}
	one := isOneRow(from, to)
	var runs []merge.Source
	for _, p := range v.parts {
		if !one || p.run.May(from) {
			runs = append(runs, p.run.Seek(first))
		}
	}
	// The runs alone may be as many as a merge takes.
	inRuns, _ := merge.New(runs...)
	all, _ := merge.New(inRuns, v.remember(first))
	return &reading{view: v, entries: all, to: bytes.Clone(to)}
}

// isOneRow tells whether nothing but the row from itself can be in a range.
func isOneRow(from, to []byte) bool {
	return len(to) == len(from)+1 && bytes.HasPrefix(to, from) && to[len(from)] == 0
}

// Rows goes through the rows that have entries, rising or falling.
func (v *View) Rows(from, to []byte, back bool) (iter.Seq[[]byte], api.Errno) {
	if err := v.checkRange(from, to); err != api.OK {
		return nil, err
	}
	from, to = bytes.Clone(from), bytes.Clone(to)
	rising := func(yield func([]byte) bool) { giveRows(v.walk(from, to), yield) }
	if !back {
		return rising, api.OK
	}
	return func(yield func([]byte) bool) { v.giveBack(rising, yield) }, api.OK
}

// giveRows gives each row of a source's entries once; whatever is wrong with the source, the view's being released too, ends it.
func giveRows(s merge.Source, yield func([]byte) bool) {
	var last []byte // no row has no byte
	for {
		e, more, _ := s.Next()
		if !more {
			return
		}
		if bytes.Equal(e.Row, last) {
			continue
		}
		// A copy: what is given may be written over.
		last = append(last[:0], e.Row...)
		if !yield(e.Row) {
			return
		}
	}
}

// giveBack gives rows the other way round: runs are read forward alone, so that all are gone through first.
func (v *View) giveBack(rising iter.Seq[[]byte], yield func([]byte) bool) {
	var rows [][]byte
	for row := range rising {
		rows = append(rows, row)
	}
	for _, row := range slices.Backward(rows) {
		if v.released || !yield(row) {
			return
		}
	}
}

// Source tells the entries of one run; of the number 0: of the memtable.
func (v *View) Source(num int) (merge.Source, api.Errno) {
	if v.released {
		return nil, api.ErrReleased
	}
	if num == 0 {
		return &reading{view: v, entries: v.remember(api.Entry{})}, api.OK
	}
	p := v.find(num)
	if p == nil {
		return nil, api.ErrNoRun
	}
	return &reading{view: v, entries: p.run.All()}, api.OK
}

// find is the view's run of a number; nil: it has none.
func (v *View) find(num int) *part {
	i := slices.IndexFunc(v.parts, func(p *part) bool { return p.meta.Num == num })
	if i < 0 {
		return nil
	}
	return v.parts[i]
}
