package merge

import (
	"bytes"
	"iter"

	"strata/api"
)

// Source tells entries in order, one by one.
type Source interface {
	Next() (api.Entry, bool, api.Errno)
}

// list is a source of entries at hand, and of what is wrong behind them.
type list struct {
	rest []api.Entry
	end  api.Errno
}

func (l *list) Next() (api.Entry, bool, api.Errno) {
	if len(l.rest) == 0 {
		return api.Entry{}, false, l.end
	}
	e := l.rest[0]
	l.rest[0] = api.Entry{}
	l.rest = l.rest[1:]
	return e, true, api.OK
}

// Of is a source of these entries.
func Of(l ...api.Entry) Source {
	var own []api.Entry
	for _, e := range l {
		e.Row, e.Qual, e.Value = bytes.Clone(e.Row), bytes.Clone(e.Qual), bytes.Clone(e.Value)
		own = append(own, e)
	}
	// Each copy is told once, so that it need not be copied again.
	return &list{rest: own}
}

// ranged is a source of what a range gives, which is gone through when it is first asked: stopped in its midst, it would have to be let go by somebody.
type ranged struct {
	seq   iter.Seq[api.Entry] // nil: it has been gone through
	given list
}

// Seq is a source of what is ranged over.
func Seq(s iter.Seq[api.Entry]) Source { return &ranged{seq: s} }

func (r *ranged) Next() (api.Entry, bool, api.Errno) {
	if seq := r.seq; seq != nil {
		r.seq = nil
		r.given = gather(seq)
	}
	return r.given.Next()
}

// gather goes through a range; one that panics is taken as a source that is none from there on.
func gather(seq iter.Seq[api.Entry]) (given list) {
	defer func() {
		if recover() != nil {
			given.end = api.ErrSource
		}
	}()
	for e := range seq {
		given.rest = append(given.rest, e)
	}
	return given
}

// Take takes up to n entries of a source.
func Take(s Source, n int) ([]api.Entry, api.Errno) {
	if s == nil {
		return nil, api.ErrSource
	}
	var taken []api.Entry
	for len(taken) < n {
		e, more, err := ask(s)
		if !more {
			return taken, err
		}
		taken = append(taken, e)
	}
	return taken, api.OK
}

// ask asks a source, of which anything may come: with an error, or at the end, there is no entry; one that panics is none.
func ask(s Source) (e api.Entry, more bool, err api.Errno) {
	defer func() {
		if recover() != nil {
			err = api.ErrSource
		}
		if err != api.OK {
			more = false
		}
	}()
	return s.Next()
}
