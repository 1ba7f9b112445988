package cluster

import (
	"strata/api"
	"strata/order"
)

// Propose proposes a command at a node, to a tablet: its index and term.
func (x *Cluster) Propose(node, tablet int, c api.Command) (int, int, api.Errno) {
	r, err := x.replica(node, tablet)
	if err != api.OK {
		return 0, 0, err
	}
	b, err := order.Encode(x.config.Schema, c)
	if err != api.OK {
		return 0, 0, err
	}
	if c.Kind == api.MMutate && x.Route(c.Row) != tablet {
		return 0, 0, api.ErrTablet
	}
	index, term, out, err := r.Propose(b)
	x.send(tablet, out...)
	return index, term, err
}

// HandOver lets a node hand a tablet's leadership to another.
func (x *Cluster) HandOver(node, tablet, peer int) api.Errno {
	r, err := x.replica(node, tablet)
	if err != api.OK {
		return err
	}
	if !x.isNode(peer) {
		return api.ErrNode
	}
	out, err := r.HandOver(peerOf(peer))
	x.send(tablet, out...)
	return err
}

// Answers tells the replies at a node since it was asked last.
func (x *Cluster) Answers(node, tablet int) ([]api.Answered, api.Errno) {
	r, err := x.replica(node, tablet)
	if err != api.OK {
		return nil, err
	}
	return r.Answers(), api.OK
}

// Query answers a question at a node, by one tablet, here and now.
func (x *Cluster) Query(node, tablet int, q api.Query) (api.Page, api.Errno) {
	r, err := x.replica(node, tablet)
	if err != api.OK {
		return api.Page{}, err
	}
	return r.Query(q)
}

// Flush flushes a tablet at a node.
func (x *Cluster) Flush(node, tablet int) api.Errno {
	r, err := x.replica(node, tablet)
	if err != api.OK {
		return err
	}
	return r.Flush()
}

// Compact begins a compaction of a tablet at a node, or steps it.
func (x *Cluster) Compact(node, tablet int, major bool, n int) (bool, api.Errno) {
	r, err := x.replica(node, tablet)
	if err != api.OK {
		return false, err
	}
	return r.Compact(major, n)
}

// Status tells how a replica is.
func (x *Cluster) Status(node, tablet int) (api.Status, api.Errno) {
	r, err := x.replica(node, tablet)
	if err != api.OK {
		return api.Status{}, err
	}
	return r.Status(), api.OK
}

// Log tells the entries of a replica's log.
func (x *Cluster) Log(node, tablet int) ([]api.LogEntry, api.Errno) {
	r, err := x.replica(node, tablet)
	if err != api.OK {
		return nil, err
	}
	return r.Log(), api.OK
}

// Dump tells the entries of a replica's runs, the newest run first.
func (x *Cluster) Dump(node, tablet int) ([][]api.Entry, api.Errno) {
	r, err := x.replica(node, tablet)
	if err != api.OK {
		return nil, err
	}
	v, err := r.Tree().Pin()
	if err != api.OK {
		return nil, err
	}
	defer v.Release()
	var out [][]api.Entry
	for _, m := range r.Tree().Runs() {
		src, err := v.Source(m.Num)
		if err != api.OK {
			return nil, err
		}
		l, err := drain(src)
		if err != api.OK {
			return nil, err
		}
		out = append(out, l)
	}
	return out, api.OK
}

// source tells entries one by one.
type source interface {
	Next() (api.Entry, bool, api.Errno)
}

// drain takes a source's entries to its end.
func drain(src source) ([]api.Entry, api.Errno) {
	var l []api.Entry
	for {
		e, more, err := src.Next()
		if err != api.OK {
			return nil, err
		}
		if !more {
			return l, api.OK
		}
		l = append(l, e)
	}
}
