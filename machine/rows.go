package machine

import (
	"strata/api"
	"strata/query"
	"strata/retain"
	"strata/tree"
)

// spareViews: so many of the tree's are left by whoever only asks, so that a command can always read.
const spareViews = 1

// Rows is rows, one by one; what they are told of is held until the end or an error was told, or they are closed.
type Rows struct {
	view   *tree.View
	reader *retain.Reader
	course course
	over   bool
	told   api.Errno // with no row, from when it is over on
}

// Rows tells the rows from where a question begins on, in its direction, before it is asked of them.
func (m *Machine) Rows(q api.Query) (*Rows, api.Errno) { return m.rows(q, spareViews) }

// rows are told, if so many views can still be pinned meanwhile.
func (m *Machine) rows(q api.Query, spare int) (*Rows, api.Errno) {
	if err := query.Check(m.schema, q); err != api.OK {
		return nil, err
	}
	start, _, err := query.Start(q)
	if err != api.OK {
		return nil, err
	}
	clock := m.tree.Clock()
	time, err := query.At(q, clock)
	if err != api.OK {
		return nil, err
	}
	reader, err := retain.NewReader(m.schema, clock, time, q.N)
	if err != api.OK {
		return nil, err
	}
	v, err := m.pin(spare)
	if err != api.OK {
		return nil, err
	}
	return &Rows{view: v, reader: reader, course: newCourse(v, start, q.Reverse)}, api.OK
}

// pin asks the tree first: its being down comes ahead of the number of views.
func (m *Machine) pin(spare int) (*tree.View, api.Errno) {
	v, err := m.tree.Pin()
	if err != api.OK {
		return nil, err
	}
	if m.tree.Pins() > api.MaxPins-spare {
		v.Release()
		return nil, api.ErrPins
	}
	return v, api.OK
}

// Next is the next row.
func (r *Rows) Next() (row api.Row, more bool, err api.Errno) {
	if r.over {
		return api.Row{}, false, r.told
	}
	defer func() {
		if !more {
			r.end(err)
		}
	}()
	for {
		l, err := r.course.next()
		if err != api.OK || !l.more {
			return api.Row{}, false, err
		}
		read, err := l.readRow(r.reader)
		if err != api.OK {
			return api.Row{}, false, err
		}
		if len(read) > 0 {
			return shown(read), true, api.OK
		}
	}
}

// Close lets go of what was held.
func (r *Rows) Close() { r.end(api.ErrReleased) }

// end lets all go but for what is told from then on.
func (r *Rows) end(told api.Errno) {
	if !r.over {
		defer r.view.Release()
	}
	*r = Rows{over: true, told: told}
}

// shown is a row by what was read of it.
func shown(read []api.Entry) api.Row {
	row := api.Row{Row: read[0].Row}
	for _, e := range read {
		row.Cells = append(row.Cells, api.Cell{Fam: e.Fam, Qual: e.Qual, Ts: e.Ts, Value: e.Value})
	}
	return row
}

// course goes from row to row: a line that stands at the next one, or has no more.
type course interface {
	next() (*line, api.Errno)
}

func newCourse(v *tree.View, start []byte, back bool) course {
	if back {
		return &falling{view: v, below: start}
	}
	return &rising{view: v, start: start}
}

// rising is one line over all rows from start on.
type rising struct {
	view  *tree.View
	start []byte
	line  *line
}

func (c *rising) next() (*line, api.Errno) {
	if c.line != nil {
		// Behind a row that was read it stands at the next one.
		return c.line, api.OK
	}
	// Just behind a row of MaxRow bytes is no row: it begins with that one, which is passed over.
	first := c.start[:min(len(c.start), api.MaxRow)]
	l, err := walk(c.view, first, nil)
	for err == api.OK && len(c.start) > len(first) && l.isIn(first) {
		err = l.step()
	}
	c.line = l
	return l, err
}

// falling is a line for each row, since a tree is walked forward alone: so it is gone through first to find them.
type falling struct {
	view   *tree.View
	below  []byte
	listed bool
	left   [][]byte // rising
}

func (c *falling) next() (*line, api.Errno) {
	if err := c.list(); err != api.OK {
		return nil, err
	}
	last := len(c.left) - 1
	if last < 0 {
		return &line{}, api.OK
	}
	row := c.left[last]
	c.left = c.left[:last]
	return walk(c.view, row, behind(row))
}

func (c *falling) list() api.Errno {
	if c.listed {
		return api.OK
	}
	l, err := walk(c.view, nil, c.below)
	for err == api.OK && l.more {
		row := l.at.Row
		c.left = append(c.left, row)
		for err == api.OK && l.isIn(row) {
			err = l.step()
		}
	}
	c.listed = true
	return err
}
