package replica_test

import (
	"encoding/binary"
	"fmt"
	"hash/crc32"
	"slices"
	"strings"

	"strata/api"
	"strata/disk"
	"strata/journal"
	"strata/machine"
	"strata/raft"
	"strata/squash"
	"strata/tree"
)

// model tells the chapter's words a second time, over a disk, a node, a journal, a tree and a machine of its own.
type model struct {
	d      *disk.Disk
	prefix string
	c      api.ReplicaConfig
	n      *raft.Node
	j      *journal.Journal
	t      *tree.Tree
	m      *machine.Machine
	job    *squash.Job

	last      api.Ready // of the node
	proposals [][2]int  // index and term
	answers   []api.Answered
	sent      [api.MaxNodes + 1]*outgoing
	in        *incoming
	halted    bool
	down      bool
	free      bool // a call broke off at a Save: what the node says is not held against anything
	freeIn    bool // the disk went down within 18.7 or 18.8
	seen      map[string]int
}

// saw counts what came to pass.
func (m *model) saw(what string) { m.seen[what]++ }

type outgoing struct {
	index, term, at int
	data            []byte
}

type incoming struct {
	from, index, term, total, have int
}

func frame(body []byte) []byte {
	table := crc32.MakeTable(crc32.Castagnoli)
	out := binary.BigEndian.AppendUint32(nil, uint32(len(body)))
	out = binary.LittleEndian.AppendUint32(out, crc32.Checksum(out, table))
	out = append(out, body...)
	return binary.LittleEndian.AppendUint32(out, crc32.Checksum(body, table))
}

func numbers(out []byte, l ...int) []byte {
	for _, n := range l {
		out = binary.AppendUvarint(out, uint64(n))
	}
	return out
}

// snapBody is what the frame of a snapshot holds.
func snapBody(x api.Image, term int) []byte {
	body := numbers([]byte{0x47}, x.Index, term, x.Clock, x.Low, len(x.State))
	body = append(body, x.State...)
	body = numbers(body, len(x.Runs))
	for _, run := range x.Runs {
		body = numbers(body, len(run))
	}
	return body
}

// snapBytes is a snapshot's bytes.
func snapBytes(x api.Image, term int) []byte {
	out := frame(snapBody(x, term))
	for _, run := range x.Runs {
		out = append(out, run...)
	}
	return out
}

// snapIn reads a snapshot's bytes by trying: what is read is written again, and must be the same.
func snapIn(b []byte) (x api.Image, term int, is bool) {
	if len(b) < 13 {
		return x, 0, false
	}
	n := int(binary.BigEndian.Uint32(b))
	if n > len(b)-12 {
		return x, 0, false
	}
	body, left := b[8:8+n], b[12+n:]
	if len(body) == 0 {
		return x, 0, false
	}
	at := 1
	next := func() int {
		v, n := binary.Uvarint(body[at:])
		if n <= 0 || int(v) < 0 {
			at = len(body)
			return 0
		}
		at += n
		return int(v)
	}
	x.Index, term, x.Clock, x.Low = next(), next(), next(), next()
	if k := next(); k <= len(body)-at {
		x.State = slices.Clone(body[at : at+k])
		at += k
	}
	for range min(next(), len(body)) {
		k := min(next(), len(left))
		x.Runs = append(x.Runs, slices.Clone(left[:k]))
		left = left[k:]
	}
	return x, term, string(snapBytes(x, term)) == string(b)
}

// openModel: 18.2.
func openModel(d *disk.Disk, prefix string, s api.Schema, c api.ReplicaConfig, draw int) (*model, api.Errno) {
	if d == nil {
		return nil, api.ErrArg
	}
	if d.Down() {
		return nil, api.ErrDown
	}
	if _, _, err := squash.Pick(c.Policy); err != 0 {
		return nil, api.ErrTiers
	}
	if _, err := raft.New(c.Raft, api.RaftState{}, draw); err != 0 {
		return nil, err
	}
	m := &model{d: d, prefix: prefix, c: c, seen: map[string]int{}}
	var err api.Errno
	if m.t, err = tree.Open(d, prefix, s, c.Tree); err != 0 {
		return nil, err
	}
	if m.m, err = machine.Open(m.t); err != 0 {
		return nil, err
	}
	if m.j, err = journal.Open(d, prefix, c.Segment); err != 0 {
		return nil, err
	}
	if slices.Contains(d.List(""), prefix+"SNAP") {
		size, _ := d.Size(prefix + "SNAP")
		b, _ := d.Read(prefix+"SNAP", 0, size)
		base, _ := m.j.Base()
		if x, term, is := snapIn(b); is && x.Index == m.t.Flushed() && x.Index > base {
			m.saw("an installing ended by Open")
			if err := m.bring(x.Index, term); err != 0 {
				return nil, err
			}
		} else {
			m.saw("a file of no use")
		}
		if err := d.Delete(prefix + "SNAP"); err != 0 {
			return nil, err
		}
	}
	base, term := m.j.Base()
	last, _ := m.j.Last()
	if m.t.Flushed() < base || m.t.Flushed() > last {
		return nil, api.ErrMix
	}
	log, _ := m.j.Entries(base+1, last)
	if m.n, err = raft.New(c.Raft, api.RaftState{Hard: m.j.Hard(), SnapIndex: base, SnapTerm: term, Commit: m.t.Flushed(), Log: log}, draw); err != 0 {
		return nil, err
	}
	m.last = api.Ready{Hard: m.j.Hard(), Role: api.RFollower, Commit: m.t.Flushed()}
	return m, 0
}

// bring brings the journal behind a snapshot.
func (m *model) bring(index, term int) api.Errno {
	last, _ := m.j.Last()
	if index <= last {
		if l, err := m.j.Entries(index, index); err == 0 && l[0].Term == term {
			return m.j.Trim(index)
		}
	}
	return m.j.Reset(m.j.Hard(), index, term)
}

// dead: 18.1.
func (m *model) dead() api.Errno {
	if m.d.Down() {
		m.down = true
	}
	if m.down {
		return api.ErrDown
	}
	if m.halted {
		return api.ErrHalted
	}
	return 0
}

// fail is the answer where the journal, or the machine's Apply, has refused something.
func (m *model) fail(err api.Errno) api.Errno {
	m.free = true
	if err == api.ErrDown {
		return err
	}
	m.halted = true
	m.saw(fmt.Sprintf("halted by %d", err))
	return api.ErrHalted
}

func (m *model) event(e api.Event) ([]api.Message, api.Errno) {
	ready, err := m.n.Step(e)
	if err != 0 {
		return nil, err
	}
	m.last = ready
	return m.goOn(ready)
}

func recordSize(h api.Hard, l []api.LogEntry) int {
	out := numbers([]byte{'S'}, h.Term, h.Vote, l[0].Index, len(l))
	n := len(out)
	for _, e := range l {
		n += len(numbers(nil, e.Term, len(e.Data))) + len(e.Data)
	}
	return n
}

// goOn: 18.3.
func (m *model) goOn(r api.Ready) ([]api.Message, api.Errno) {
	if r.Write && len(r.Entries) == 0 {
		if err := m.j.Save(r.Hard, 0); err != 0 {
			return nil, m.fail(err)
		}
	}
	if r.Write {
		for l, from := r.Entries, r.From; len(l) > 0; {
			n := len(l)
			for recordSize(r.Hard, l[:n]) > 1048576 {
				n--
			}
			if err := m.j.Save(r.Hard, from, l[:n]...); err != 0 {
				return nil, m.fail(err)
			}
			l, from = l[n:], from+n
		}
	}
	var out []api.Message
	for _, x := range r.Msgs {
		out = append(out, api.Message{Kind: api.PRaft, From: m.c.Raft.ID, To: x.To, Raft: x})
	}
	for peer := 1; peer <= api.MaxNodes; peer++ {
		if slices.Contains(r.Snaps, peer) {
			base, _ := m.j.Base()
			if s := m.sent[peer]; s == nil || s.index < base {
				x, err := m.t.Image()
				if err != 0 {
					continue
				}
				if s != nil {
					m.saw("a snapshot in the place of another")
				}
				term, _ := m.j.Term(x.Index)
				m.sent[peer] = &outgoing{x.Index, term, 0, snapBytes(x, term)}
			}
			out = append(out, m.chunk(peer))
		}
	}
	for m.m.Stat().Applied < r.Commit {
		i := m.m.Stat().Applied + 1
		l, _ := m.j.Entries(i, i)
		reply, err := m.m.Apply(i, l[0].Data)
		if err != 0 {
			return nil, m.fail(err)
		}
		for _, p := range m.proposals {
			if p[0] == i {
				m.saw(fmt.Sprintf("an answer, its own %v", p[1] == l[0].Term))
			}
			if p[0] == i && p[1] == l[0].Term {
				m.answers = append(m.answers, api.Answered{Index: i, Term: p[1], Reply: reply})
			} else if p[0] == i {
				m.answers = append(m.answers, api.Answered{Index: i, Term: l[0].Term})
			}
		}
		m.forget(i)
	}
	if r.Role != api.RLeader {
		for _, s := range m.sent {
			if s != nil {
				m.saw("sent no more")
			}
		}
		m.sent = [8]*outgoing{}
	}
	return out, 0
}

func (m *model) forget(index int) {
	m.proposals = slices.DeleteFunc(m.proposals, func(p [2]int) bool { return p[0] == index })
}

func (m *model) chunk(peer int) api.Message {
	s := m.sent[peer]
	return api.Message{Kind: api.PChunk, From: m.c.Raft.ID, To: peer, Index: s.index, Term: s.term, At: s.at, Total: len(s.data), Data: s.data[s.at:min(s.at+16384, len(s.data))]}
}

// tick: 18.4.
func (m *model) tick(draw int) ([]api.Message, api.Errno) {
	if err := m.dead(); err != 0 {
		return nil, err
	}
	out, err := m.event(api.Event{Kind: api.ETick, Draw: draw})
	if err != 0 {
		return nil, err
	}
	if _, size := m.t.Mem(); size >= m.c.Tree.Mem {
		err := m.flush()
		m.saw(fmt.Sprintf("a tick's flush %d", err))
		if err != 0 && err != api.ErrFull && err != api.ErrFiles && err != api.ErrLong {
			return nil, err
		}
	}
	return out, 0
}

// receive: 18.5, 18.6, 18.7.
func (m *model) receive(x api.Message, draw int) ([]api.Message, api.Errno) {
	if err := m.dead(); err != 0 {
		return nil, err
	}
	if x.Kind < 1 || x.Kind > 3 {
		return nil, api.ErrArg
	}
	if !slices.Contains(m.c.Raft.Peers, x.From) || x.From == m.c.Raft.ID || x.To != m.c.Raft.ID {
		return nil, api.ErrPeer
	}
	if x.Kind == api.PRaft {
		for _, e := range x.Raft.Entries {
			if len(e.Data) > 98304 {
				return nil, api.ErrLong
			}
		}
		return m.event(api.Event{Kind: api.EMsg, Msg: x.Raft, Draw: draw})
	}
	if x.Index < 1 || x.Index > 1<<40 || x.Term < 1 || x.Term > 1<<40 {
		return nil, api.ErrSnap
	}
	if x.Kind == api.PGot {
		if x.At < 0 || x.At > 1<<26 {
			return nil, api.ErrSnap
		}
		s := m.sent[x.From]
		switch {
		case s == nil || s.index != x.Index || s.term != x.Term || x.At > len(s.data):
			return nil, 0
		case x.At == len(s.data):
			m.sent[x.From] = nil
			m.saw("all was sent")
			return nil, 0
		}
		s.at = x.At
		return []api.Message{m.chunk(x.From)}, 0
	}
	if x.Total < 1 || x.Total > 1<<26 || x.At < 0 || len(x.Data) == 0 || len(x.Data) > 16384 || x.At > x.Total || x.At+len(x.Data) > x.Total {
		return nil, api.ErrSnap
	}
	return m.stage(x)
}

// stage: 18.7.
func (m *model) stage(x api.Message) ([]api.Message, api.Errno) {
	got := func(at int) ([]api.Message, api.Errno) {
		return []api.Message{{Kind: api.PGot, From: m.c.Raft.ID, To: x.From, Index: x.Index, Term: x.Term, At: at, Total: x.Total}}, 0
	}
	if m.last.Role == api.RLeader || x.Term > m.last.Hard.Term {
		m.saw("18.7, 1")
		return nil, 0
	}
	if x.Index <= m.last.Commit {
		m.saw("18.7, 2")
		return got(x.Total)
	}
	if m.in != nil && m.in.index > x.Index {
		m.saw("18.7, 3")
		return nil, 0
	}
	name := m.prefix + "SNAP"
	drop := func(answer api.Errno) ([]api.Message, api.Errno) {
		m.in = nil
		if slices.Contains(m.d.List(""), name) {
			if err := m.d.Delete(name); err != 0 {
				m.freeIn = true
				return nil, err
			}
		}
		return nil, answer
	}
	if m.in == nil || m.in.from != x.From || m.in.index != x.Index || m.in.term != x.Term || m.in.total != x.Total {
		if x.At != 0 {
			m.saw("18.7, 4, not its beginning")
			return got(0)
		}
		m.saw(fmt.Sprintf("18.7, 4, in the place of another %v", m.in != nil))
		if slices.Contains(m.d.List(""), name) {
			if err := m.d.Delete(name); err != 0 {
				m.freeIn = true
				return nil, err
			}
		}
		switch err := m.d.Create(name); err {
		case 0:
		case api.ErrDown:
			m.freeIn = true
			return nil, err
		default:
			return drop(0)
		}
		m.in = &incoming{x.From, x.Index, x.Term, x.Total, 0}
	}
	if x.At == m.in.have {
		switch err := m.d.Append(name, x.Data); err {
		case 0:
		case api.ErrDown:
			m.freeIn = true
			return nil, err
		default:
			m.saw("no room for a chunk")
			return drop(0)
		}
		m.in.have += len(x.Data)
	} else {
		m.saw("18.7, 5, another place")
	}
	if m.in.have < x.Total {
		return got(m.in.have)
	}
	out, err, dropped := m.install(x, name)
	if dropped {
		return drop(err)
	}
	if err != 0 {
		return nil, err
	}
	answer, _ := got(x.Total)
	return append(answer, out...), 0
}

// install: 18.8; dropped: nothing is staged any more, and the file is to be deleted.
func (m *model) install(x api.Message, name string) (out []api.Message, err api.Errno, dropped bool) {
	if err := m.d.Sync(name); err != 0 {
		m.freeIn = true
		return nil, err, false
	}
	b, _ := m.d.Read(name, 0, x.Total)
	image, term, is := snapIn(b)
	if !is || image.Index != x.Index || term != x.Term {
		m.saw("no snapshot")
		return nil, api.ErrSnap, true
	}
	need := x.Total + 4096*len(image.Runs) + 4096
	for _, f := range m.d.Files() {
		if strings.HasPrefix(f.Name, m.prefix+"J-") {
			need += len(f.Data)
		}
	}
	if m.d.Free() < need || len(m.d.Files()) > 256-len(image.Runs)-2 {
		m.saw("no room to install")
		return nil, 0, true
	}
	if m.job != nil {
		m.saw("a job aborted")
		m.job.Abort()
		m.job = nil
	}
	if err := m.t.Install(image); err != 0 {
		m.saw(fmt.Sprintf("install refused %d", err))
		m.freeIn = err == api.ErrDown
		if err == api.ErrDown && m.t.Applied() == image.Index {
			m.m, _ = machine.Open(m.t)
		}
		return nil, err, err != api.ErrDown
	}
	m.m, _ = machine.Open(m.t)
	ready, _ := m.n.Step(api.Event{Kind: api.EInstalled, Index: x.Index, Term: x.Term})
	m.last = ready
	if err := m.bring(x.Index, x.Term); err != 0 {
		free := m.free
		err = m.fail(err)
		m.free, m.freeIn = free, err == api.ErrDown
		return nil, err, false
	}
	if err := m.d.Delete(name); err != 0 {
		m.freeIn = true
		return nil, err, false
	}
	m.in = nil
	m.saw(fmt.Sprintf("installed, entries stay %v", len(ready.Entries) > 0))
	for _, p := range slices.Clone(m.proposals) {
		if p[0] <= x.Index {
			m.saw("a proposal passed over")
			m.forget(p[0])
		}
	}
	out, err = m.goOn(ready)
	return out, err, false
}

// propose: 18.9.
func (m *model) propose(command []byte) (int, int, []api.Message, api.Errno) {
	if err := m.dead(); err != 0 {
		return 0, 0, nil, err
	}
	if len(command) > 98304 {
		return 0, 0, nil, api.ErrLong
	}
	if m.t.Stalled() {
		return 0, 0, nil, api.ErrBusy
	}
	ready, err := m.n.Step(api.Event{Kind: api.EPropose, Data: [][]byte{command}})
	if err != 0 {
		return 0, 0, nil, err
	}
	m.last = ready
	n := len(m.proposals)
	if m.forget(ready.First); len(m.proposals) < n {
		m.saw("a proposal in the place of another")
	}
	m.proposals = append(m.proposals, [2]int{ready.First, ready.Hard.Term})
	out, err := m.goOn(ready)
	if err != 0 {
		return 0, 0, nil, err
	}
	return ready.First, ready.Hard.Term, out, 0
}

// handOver: 18.10.
func (m *model) handOver(peer int) ([]api.Message, api.Errno) {
	if err := m.dead(); err != 0 {
		return nil, err
	}
	return m.event(api.Event{Kind: api.EHandOver, Peer: peer})
}

// flushed: 18.11.
func (m *model) flushed() api.Errno {
	if err := m.dead(); err != 0 {
		return err
	}
	return m.flush()
}

func (m *model) flush() api.Errno {
	if err := m.m.Flush(); err != 0 {
		return err
	}
	base, _ := m.j.Base()
	if m.t.Flushed() <= base {
		return 0
	}
	err := m.j.Trim(m.t.Flushed())
	if err == api.ErrFull || err == api.ErrFiles {
		m.saw(fmt.Sprintf("a trim let go %d", err))
		return 0
	}
	if err == 0 {
		m.last, err = m.n.Step(api.Event{Kind: api.ECompact, Index: m.t.Flushed()})
	}
	return err
}

// compact: 18.12.
func (m *model) compact(major bool, n int) (bool, api.Errno) {
	if err := m.dead(); err != 0 {
		return false, err
	}
	if m.job == nil {
		var picks []int
		if major {
			for _, x := range m.t.Runs() {
				picks = append(picks, x.Num)
			}
		} else {
			picks, major, _ = squash.Pick(m.c.Policy, m.t.Runs()...)
		}
		if len(picks) == 0 {
			return false, 0
		}
		j, err := squash.Start(m.t, picks, major)
		if err != 0 {
			return false, err
		}
		m.job = j
	}
	all, err := m.job.Step(n)
	if err == 0 && all {
		_, err = m.job.Finish()
	}
	if err != 0 || all {
		m.job = nil
	}
	return err == 0 && all, err
}

// status: 18.13, as a text; what is free is left out.
func (m *model) status() string {
	base, _ := m.j.Base()
	last, _ := m.j.Last()
	s := api.Status{ID: m.c.Raft.ID, Term: m.last.Hard.Term, Leader: m.last.Leader, Role: m.last.Role, First: base + 1, Last: last,
		Commit: m.last.Commit, Applied: m.m.Stat().Applied, Flushed: m.t.Flushed(), Halted: m.halted, Installing: m.in != nil}
	return m.statusText(s)
}

func (m *model) statusText(s api.Status) string {
	if m.free {
		s.Term, s.Leader, s.Role, s.Commit = 0, 0, 0, 0
	}
	if m.freeIn {
		s.Installing = false
	}
	return fmt.Sprintf("%+v", s)
}
