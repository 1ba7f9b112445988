package machine

import (
	"bytes"
	"slices"

	"strata/api"
	"strata/cell"
	"strata/retain"
)

// column is a row, a family and a qualifier.
type column struct {
	row  []byte
	fam  int
	qual []byte
}

// hangsOn tells whether an entry of the row has a say in what the column shows.
func (c column) hangsOn(e api.Entry) bool {
	return e.Fam == c.fam && (e.Kind == api.KFam || bytes.Equal(e.Qual, c.qual))
}

// end stands behind all that the column hangs on: no entry has a Ts of 0.
func (c column) end() api.Entry {
	return api.Entry{Row: c.row, Fam: c.fam, Qual: c.qual, Kind: api.KPut}
}

// glance is what a look at a column finds: its newest visible value, if there is one, and what the column hangs on up to there, in order. So all groups ahead of that value are seen whole, and what is older has no say in it.
type glance struct {
	value []byte
	is    bool
	seen  []api.Entry
}

// with is a glance by what was read of the column.
func (g glance) with(read []api.Entry) glance {
	if len(read) > 0 {
		g.value, g.is = read[0].Value, true
	}
	return g
}

// look looks at a column, with entries that the tree has not taken yet laid over what there is.
func (m *Machine) look(c column, made []api.Entry) (glance, api.Errno) {
	v, err := m.tree.Pin()
	if err != api.OK {
		return glance{}, err
	}
	defer v.Release()
	// No time is later than MaxTime: so this reads the newest that is visible.
	reader, err := retain.NewReader(m.schema, v.Clock(), api.MaxTime, 1)
	if err != api.OK {
		return glance{}, err
	}
	under, err := walk(v, c.row, behind(c.row))
	if err != api.OK {
		return glance{}, err
	}
	l, err := newLine(&laid{over: slices.SortedFunc(slices.Values(made), cell.Compare), under: under})
	if err != api.OK {
		return glance{}, err
	}
	return l.look(c, reader)
}

// look goes along the line up to the column's newest visible value.
func (l *line) look(c column, r *retain.Reader) (glance, api.Errno) {
	var g glance
	for end := c.end(); l.more && cell.Compare(l.at, end) < 0; {
		if c.hangsOn(l.at) {
			g.seen = append(g.seen, l.at)
			read, err := r.Push(l.at)
			if err != api.OK || len(read) > 0 {
				return g.with(read), err
			}
		}
		if err := l.step(); err != api.OK {
			return glance{}, err
		}
	}
	return g.with(r.End()), api.OK
}

// laid is a source of a line's entries with others laid over them.
type laid struct {
	over  []api.Entry // in order
	under *line
}

func (l *laid) Next() (api.Entry, bool, api.Errno) {
	if len(l.over) > 0 && (!l.under.more || cell.Compare(l.over[0], l.under.at) < 0) {
		e := l.over[0]
		l.over = l.over[1:]
		return e, true, api.OK
	}
	if !l.under.more {
		return api.Entry{}, false, api.OK
	}
	e := l.under.at
	if err := l.under.step(); err != api.OK {
		return api.Entry{}, false, err
	}
	return e, true, api.OK
}
