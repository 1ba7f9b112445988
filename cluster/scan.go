package cluster

import (
	"slices"
	"sync"

	"strata/api"
	"strata/query"
	"strata/replica"
)

// readAhead: so many rows of a tablet may wait for their turn while it is read on.
const readAhead = 16

// Scan answers a question at a node, over all tablets side by side, until done is closed.
func (x *Cluster) Scan(done <-chan struct{}, node int, q api.Query) (api.Page, api.Errno) {
	l, err := x.replicas(node)
	if err != api.OK {
		return api.Page{}, err
	}
	if err := x.mayScan(done, q); err != api.OK {
		return api.Page{}, err
	}
	tablets, err := openRows(l, q)
	if err != api.OK {
		return api.Page{}, err
	}
	if q.Reverse {
		slices.Reverse(tablets)
	}
	over := make(chan struct{})
	var readers sync.WaitGroup
	defer readers.Wait()
	defer close(over)
	rows := &inTurn{done: done}
	for _, t := range tablets {
		lane := make(chan told, readAhead)
		rows.lanes = append(rows.lanes, lane)
		readers.Go(func() { read(t, lane, over) })
	}
	// The question has a time of its own, so that the clock, of which each tablet has another, is not asked.
	return query.Run(x.config.Schema, q, q.Time, rows)
}

func (x *Cluster) mayScan(done <-chan struct{}, q api.Query) api.Errno {
	switch {
	case isClosed(done):
		return api.ErrClosed
	case q.Time == 0:
		return api.ErrTimes
	}
	return query.Check(x.config.Schema, q)
}

// isClosed passes over what somebody sends: that closes nothing.
func isClosed(done <-chan struct{}) bool {
	for range len(done) + 1 {
		select {
		case _, open := <-done:
			if !open {
				return true
			}
		default:
			return false
		}
	}
	return false
}

// tabletRows tells a tablet's rows, and holds a view till it is closed.
type tabletRows interface {
	query.Rows
	Close()
}

// openRows are the rows of all tablets; none is left open beside an error.
func openRows(l []*replica.Replica, q api.Query) ([]tabletRows, api.Errno) {
	var out []tabletRows
	for _, r := range l {
		rows, err := r.Machine().Rows(q)
		if err != api.OK {
			for _, o := range out {
				o.Close()
			}
			return nil, err
		}
		out = append(out, rows)
	}
	return out, api.OK
}

// told is what one Next of a tablet's rows answered.
type told struct {
	row  api.Row
	more bool
	err  api.Errno
}

// read sends what a tablet's rows tell, up to their end or an error, or till the scan is over.
func read(rows tabletRows, lane chan<- told, over <-chan struct{}) {
	defer rows.Close()
	for more := true; more; {
		var t told
		t.row, t.more, t.err = rows.Next()
		select {
		case lane <- t:
			more = t.more
		case <-over:
			return
		}
	}
}

// inTurn tells the rows of one tablet behind those of another, until done is closed.
type inTurn struct {
	done  <-chan struct{}
	lanes []<-chan told
}

// Next is the next row.
func (s *inTurn) Next() (api.Row, bool, api.Errno) {
	for len(s.lanes) > 0 {
		select {
		case t := <-s.lanes[0]:
			if t.more || t.err != api.OK {
				return t.row, t.more, t.err
			}
			s.lanes = s.lanes[1:]
		case _, open := <-s.done:
			if !open {
				return api.Row{}, false, api.ErrClosed
			}
		}
	}
	return api.Row{}, false, api.OK
}
