package cluster_test

import (
	"bytes"
	"fmt"
	"slices"
	"testing"

	"strata/api"
	"strata/disk"
	"strata/order"
	"strata/query"
	"strata/replica"
)

// model is what chapter 19 says of a cluster, told a second time, as plainly as can be, over replicas of its own.
type model struct {
	t     *testing.T
	c     api.ClusterConfig
	nodes []*station
	wire  []api.Packet
}

// station is a node: it is off, if it has no replica.
type station struct {
	d *disk.Disk
	l []*replica.Replica
}

func newModel(t *testing.T, c api.ClusterConfig) *model {
	t.Helper()
	m := &model{t: t, c: c}
	for i := range c.Nodes {
		d, err := disk.New(c.Disk)
		mustErr(t, "disk.New", err, api.OK)
		m.nodes = append(m.nodes, &station{d: d})
		mustErr(t, "opening", m.open(i, i), api.OK)
	}
	return m
}

func (m *model) tablets() int { return len(m.c.Splits) + 1 }

func (m *model) open(node, draw int) api.Errno {
	rc := m.c.Replica
	rc.Raft.ID = node + 1
	rc.Raft.Peers = []int{1, 2, 3, 4, 5, 6, 7}[:m.c.Nodes]
	var l []*replica.Replica
	for k := range m.tablets() {
		r, err := replica.Open(m.nodes[node].d, fmt.Sprintf("t%d.", k), m.c.Schema, rc, draw)
		if err != api.OK {
			return err
		}
		l = append(l, r)
	}
	m.nodes[node].l = l
	return api.OK
}

// at is the replica that is named, or why there is none.
func (m *model) at(node, tablet int) (*replica.Replica, api.Errno) {
	if node < 0 || node >= len(m.nodes) || m.nodes[node].l == nil {
		return nil, api.ErrNode
	}
	if tablet < 0 || tablet >= m.tablets() {
		return nil, api.ErrTablet
	}
	return m.nodes[node].l[tablet], api.OK
}

func (m *model) Route(row []byte) int {
	k := 0
	for _, s := range m.c.Splits {
		if string(s) <= string(row) {
			k++
		}
	}
	return k
}

func (m *model) post(tablet int, l []api.Message) {
	for _, x := range l {
		there := 0
		for _, p := range m.wire {
			if p.Message.To == x.To {
				there++
			}
		}
		if m.nodes[x.To-1].l == nil || there == 512 {
			continue
		}
		m.wire = append(m.wire, api.Packet{Tablet: tablet, Message: x})
	}
}

func (m *model) Tick(node, draw int) api.Errno {
	if _, err := m.at(node, 0); err != api.OK {
		return err
	}
	var errs []api.Errno
	for k, r := range m.nodes[node].l {
		l, err := r.Tick(draw)
		m.post(k, l)
		if err != api.OK {
			errs = append(errs, err)
		}
	}
	if len(errs) > 0 {
		return errs[0]
	}
	return api.OK
}

func (m *model) Packets() []api.Packet { return m.wire }

func (m *model) Deliver(i, draw int) api.Errno {
	if i < 0 || i >= len(m.wire) {
		return api.ErrPacket
	}
	p := m.wire[i]
	m.wire = slices.Concat(m.wire[:i], m.wire[i+1:])
	to := m.nodes[p.Message.To-1]
	if to.l == nil {
		return api.OK
	}
	l, err := to.l[p.Tablet].Receive(p.Message, draw)
	m.post(p.Tablet, l)
	return err
}

func (m *model) Drop(i int) api.Errno {
	if i < 0 || i >= len(m.wire) {
		return api.ErrPacket
	}
	m.wire = slices.Concat(m.wire[:i], m.wire[i+1:])
	return api.OK
}

func (m *model) Double(i int) api.Errno {
	if i < 0 || i >= len(m.wire) {
		return api.ErrPacket
	}
	m.post(m.wire[i].Tablet, []api.Message{m.wire[i].Message})
	return api.OK
}

func (m *model) Propose(node, tablet int, c api.Command) (int, int, api.Errno) {
	r, err := m.at(node, tablet)
	if err != api.OK {
		return 0, 0, err
	}
	b, err := order.Encode(m.c.Schema, c)
	if err != api.OK {
		return 0, 0, err
	}
	if c.Kind == api.MMutate && m.Route(c.Row) != tablet {
		return 0, 0, api.ErrTablet
	}
	i, term, l, err := r.Propose(b)
	m.post(tablet, l)
	return i, term, err
}

func (m *model) HandOver(node, tablet, peer int) api.Errno {
	r, err := m.at(node, tablet)
	if err != api.OK {
		return err
	}
	if peer < 0 || peer >= len(m.nodes) {
		return api.ErrNode
	}
	l, err := r.HandOver(peer + 1)
	m.post(tablet, l)
	return err
}

func (m *model) Answers(node, tablet int) ([]api.Answered, api.Errno) {
	r, err := m.at(node, tablet)
	if err != api.OK {
		return nil, err
	}
	return r.Answers(), api.OK
}

func (m *model) Query(node, tablet int, q api.Query) (api.Page, api.Errno) {
	r, err := m.at(node, tablet)
	if err != api.OK {
		return api.Page{}, err
	}
	return r.Query(q)
}

// listed are rows that lie ready.
type listed []api.Row

func (l *listed) Next() (api.Row, bool, api.Errno) {
	if len(*l) == 0 {
		return api.Row{}, false, api.OK
	}
	r := (*l)[0]
	*l = (*l)[1:]
	return r, true, api.OK
}

func (m *model) Scan(done <-chan struct{}, node int, q api.Query) (api.Page, api.Errno) {
	if _, err := m.at(node, 0); err != api.OK {
		return api.Page{}, err
	}
	select {
	case <-done:
		return api.Page{}, api.ErrClosed
	default:
	}
	if q.Time == 0 {
		return api.Page{}, api.ErrTimes
	}
	if err := query.Check(m.c.Schema, q); err != api.OK {
		return api.Page{}, err
	}
	var rows listed
	for _, r := range m.nodes[node].l {
		src, err := r.Machine().Rows(q)
		if err != api.OK {
			return api.Page{}, err
		}
		for {
			row, more, err := src.Next()
			mustErr(m.t, "Next", err, api.OK)
			if !more {
				break
			}
			rows = append(rows, row)
		}
	}
	slices.SortFunc(rows, func(a, b api.Row) int { return bytes.Compare(a.Row, b.Row) })
	if q.Reverse {
		slices.Reverse(rows)
	}
	return query.Run(m.c.Schema, q, 1, &rows)
}

func (m *model) Flush(node, tablet int) api.Errno {
	r, err := m.at(node, tablet)
	if err != api.OK {
		return err
	}
	return r.Flush()
}

func (m *model) Compact(node, tablet int, major bool, n int) (bool, api.Errno) {
	r, err := m.at(node, tablet)
	if err != api.OK {
		return false, err
	}
	return r.Compact(major, n)
}

func (m *model) Arm(node, n int) api.Errno {
	if _, err := m.at(node, 0); err != api.OK {
		return err
	}
	m.nodes[node].d.Arm(n)
	return api.OK
}

func (m *model) Crash(node int, cuts ...int) api.Errno {
	if _, err := m.at(node, 0); err != api.OK {
		return err
	}
	m.nodes[node].d.Crash(cuts...)
	m.nodes[node].l = nil
	return api.OK
}

func (m *model) Start(node, draw int) api.Errno {
	if node < 0 || node >= len(m.nodes) || m.nodes[node].l != nil {
		return api.ErrNode
	}
	var files []api.File
	for _, f := range m.nodes[node].d.Files() {
		files = append(files, api.File{Name: f.Name, Data: f.Data, Synced: len(f.Data)})
	}
	d, err := disk.Load(m.c.Disk, files...)
	mustErr(m.t, "Load", err, api.OK)
	m.nodes[node].d = d
	return m.open(node, draw)
}

func (m *model) Status(node, tablet int) (api.Status, api.Errno) {
	r, err := m.at(node, tablet)
	if err != api.OK {
		return api.Status{}, err
	}
	return r.Status(), api.OK
}

func (m *model) Log(node, tablet int) ([]api.LogEntry, api.Errno) {
	r, err := m.at(node, tablet)
	if err != api.OK {
		return nil, err
	}
	return r.Log(), api.OK
}

func (m *model) Dump(node, tablet int) ([][]api.Entry, api.Errno) {
	r, err := m.at(node, tablet)
	if err != api.OK {
		return nil, err
	}
	v, err := r.Tree().Pin()
	if err != api.OK {
		return nil, err
	}
	var out [][]api.Entry
	for _, run := range r.Tree().Runs() {
		src, err := v.Source(run.Num)
		mustErr(m.t, "Source", err, api.OK)
		var l []api.Entry
		for e, more, err := src.Next(); more; e, more, err = src.Next() {
			mustErr(m.t, "Next", err, api.OK)
			l = append(l, e)
		}
		out = append(out, l)
	}
	v.Release()
	return out, api.OK
}

func (m *model) Files(node int) ([]api.File, api.Errno) {
	if node < 0 || node >= len(m.nodes) {
		return nil, api.ErrNode
	}
	return m.nodes[node].d.Files(), api.OK
}
