package tree

import (
	"bytes"

	"strata/api"
	"strata/cell"
	"strata/mem"
	"strata/merge"
)

// reading is a source that a view hands out: it ends ahead of a row, and when the view is released.
type reading struct {
	view    *View
	entries merge.Source
	to      []byte // empty: it ends with the entries
}

func (r *reading) Next() (api.Entry, bool, api.Errno) {
	if r.view.released {
		return api.Entry{}, false, api.ErrReleased
	}
	e, more, err := r.entries.Next()
	if more && len(r.to) > 0 && bytes.Compare(e.Row, r.to) >= 0 {
		r.entries = merge.Of() // what is behind the end is never asked for
		return api.Entry{}, false, api.OK
	}
	return e, more, err
}

// atOnce: so many entries of a memtable are fetched by one range, which can't be left in its midst and taken up again.
const atOnce = 32

// remembered is a source of the entries of a memtable up to an index, from a place on.
type remembered struct {
	table   *mem.Table
	index   int
	place   api.Entry
	passed  bool // the entry at place has been told
	fetched []api.Entry
}

// remember is a source of the view's memtable, from the first entry on that is not ahead of e.
func (v *View) remember(e api.Entry) *remembered {
	return &remembered{table: v.memory, index: v.index, place: placeOf(e)}
}

// placeOf is where an entry stands, in memory of its own.
func placeOf(e api.Entry) api.Entry {
	e.Row, e.Qual, e.Value = bytes.Clone(e.Row), bytes.Clone(e.Qual), nil
	return e
}

func (r *remembered) Next() (api.Entry, bool, api.Errno) {
	if len(r.fetched) == 0 {
		r.fetch()
	}
	if len(r.fetched) == 0 {
		return api.Entry{}, false, api.OK
	}
	e := r.fetched[0]
	r.fetched = r.fetched[1:]
	return e, true, api.OK
}

func (r *remembered) fetch() {
	for e := range r.table.From(r.place) {
		if indexOf(e) > r.index || r.passed && cell.Compare(e, r.place) == 0 {
			continue
		}
		r.fetched = append(r.fetched, e)
		if len(r.fetched) == atOnce {
			break
		}
	}
	if n := len(r.fetched); n > 0 {
		r.place, r.passed = placeOf(r.fetched[n-1]), true
	}
}
