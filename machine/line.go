package machine

import (
	"bytes"

	"strata/api"
	"strata/retain"
	"strata/tree"
)

// line stands at one of a view's entries, in order.
type line struct {
	source source
	at     api.Entry
	more   bool // false: it stands behind the last one
}

// source tells entries in order, one by one.
type source interface {
	Next() (api.Entry, bool, api.Errno)
}

// newLine stands at the first entry of a source.
func newLine(s source) (*line, api.Errno) {
	l := &line{source: s}
	if err := l.step(); err != api.OK {
		return nil, err
	}
	return l, api.OK
}

// walk is a line that stands at the first entry of the rows from <= row < to.
func walk(v *tree.View, from, to []byte) (*line, api.Errno) {
	s, err := v.Walk(from, to)
	if err != api.OK {
		return nil, err
	}
	return newLine(s)
}

// behind is an end for a walk of one row alone. Of a row of the greatest length there is none: whoever walks must look out for the next one.
func behind(row []byte) []byte {
	if len(row) >= api.MaxRow {
		return nil
	}
	return append(bytes.Clone(row), 0)
}

func (l *line) step() (err api.Errno) {
	l.at, l.more, err = l.source.Next()
	return err
}

func (l *line) isIn(row []byte) bool { return l.more && bytes.Equal(l.at.Row, row) }

// readRow goes on to the next row: what is read of the one at which it stands.
func (l *line) readRow(r *retain.Reader) ([]api.Entry, api.Errno) {
	var out []api.Entry
	for row := l.at.Row; l.isIn(row); {
		read, err := r.Push(l.at)
		if err != api.OK {
			return nil, err
		}
		out = append(out, read...)
		if err := l.step(); err != api.OK {
			return nil, err
		}
	}
	return append(out, r.End()...), api.OK
}
