package replica_test

import (
	"bytes"
	"fmt"
	"slices"
	"testing"

	"strata/api"
	"strata/disk"
	"strata/journal"
	"strata/order"
	"strata/replica"
	"strata/tree"
)

var schema = api.Schema{Fams: []api.Family{{Name: "f", Max: 2}, {Name: "g", Max: 3, TTL: 30}}}

// config is that of one of so many peers.
func config(id, peers int) api.ReplicaConfig {
	c := api.ReplicaConfig{
		Raft:    api.RaftConfig{ID: id, Least: 3, Most: 6, Beat: 1, Batch: 4},
		Tree:    api.Options{Block: 256, Bits: 8, Mem: 1 << 16, Stall: 8},
		Policy:  api.Policy{Width: 2, Ratio: 4, Most: 8},
		Segment: 1024,
	}
	for i := range peers {
		c.Raft.Peers = append(c.Raft.Peers, i+1)
	}
	return c
}

func mustErr(t *testing.T, what string, got, want api.Errno) {
	t.Helper()
	if got != want {
		t.Fatalf("%s: error %d, want %d", what, got, want)
	}
}

func newDisk(t *testing.T, capacity int) *disk.Disk {
	t.Helper()
	d, err := disk.New(capacity)
	mustErr(t, "disk.New", err, api.OK)
	return d
}

// load is a disk with these files, all of them synced, or as they are.
func load(t *testing.T, capacity int, files ...api.File) *disk.Disk {
	t.Helper()
	d, err := disk.Load(capacity, files...)
	mustErr(t, "disk.Load", err, api.OK)
	return d
}

// copied is another disk with the same files, and so much room in all.
func copied(t *testing.T, d *disk.Disk, capacity int) *disk.Disk {
	t.Helper()
	return load(t, capacity, d.Files()...)
}

func open(t *testing.T, d *disk.Disk, c api.ReplicaConfig) *replica.Replica {
	t.Helper()
	r, err := replica.Open(d, "a", schema, c, 0)
	if r == nil || err != api.OK {
		t.Fatalf("Open: %d", err)
	}
	return r
}

func encode(t *testing.T, c api.Command) []byte {
	t.Helper()
	b, err := order.Encode(schema, c)
	mustErr(t, "Encode", err, api.OK)
	return b
}

func noop(t *testing.T) []byte { return encode(t, api.Command{Kind: api.MNoop}) }

func put(t *testing.T, row, value string) []byte {
	return encode(t, api.Command{Kind: api.MMutate, Row: []byte(row), Ops: []api.Op{{Kind: api.OPut, Qual: []byte("q"), Value: []byte(value)}}})
}

// puts is a command of many bytes: so many puts of 4096 each.
func puts(t *testing.T, row string, n int, fill byte) []byte {
	c := api.Command{Kind: api.MMutate, Row: []byte(row)}
	for i := range n {
		c.Ops = append(c.Ops, api.Op{Kind: api.OPut, Qual: []byte{byte('a' + i)}, Value: bytes.Repeat([]byte{fill}, 4096)})
	}
	return encode(t, c)
}

// ifThere is a command that must read what is there.
func ifThere(t *testing.T, row string) []byte {
	return encode(t, api.Command{Kind: api.MMutate, Row: []byte(row), Conds: []api.Cond{{Kind: api.CThere, Qual: []byte("q")}}, Ops: []api.Op{{Kind: api.OPut, Qual: []byte("q"), Value: []byte("w")}}})
}

func text(l []api.Message) string {
	out := ""
	for _, m := range l {
		out += messageText(m) + "\n"
	}
	return out
}

func messageText(m api.Message) string {
	entries := entriesText(m.Raft.Entries)
	m.Raft.Entries = nil
	data := m.Data
	m.Data = nil
	return fmt.Sprintf("%+v entries %s data %x", m, entries, data)
}

func entriesText(l []api.LogEntry) string {
	out := ""
	for _, e := range l {
		out += fmt.Sprintf("(%d %d %x)", e.Index, e.Term, e.Data)
	}
	return out
}

func sameFiles(a, b []api.File) bool {
	return slices.EqualFunc(a, b, func(x, y api.File) bool {
		return x.Name == y.Name && x.Synced == y.Synced && bytes.Equal(x.Data, y.Data)
	})
}

// told: the names of a disk's files, with their lengths.
func told(d *disk.Disk) string {
	out := ""
	for _, f := range d.Files() {
		out += fmt.Sprintf("%s (%d of %d) ", f.Name, f.Synced, len(f.Data))
	}
	return out
}

// has tells whether a disk has a file.
func has(d *disk.Disk, name string) bool { return slices.Contains(d.List(""), name) }

// alone is a node alone, that leads, and its disk.
func alone(t *testing.T, capacity int, c api.ReplicaConfig) (*replica.Replica, *disk.Disk) {
	t.Helper()
	d := newDisk(t, capacity)
	r := open(t, d, c)
	lead(t, r)
	return r, d
}

// lead ticks a node alone till it leads.
func lead(t *testing.T, r *replica.Replica) {
	t.Helper()
	for range 7 {
		if r.Status().Role == api.RLeader {
			return
		}
		_, err := r.Tick(0)
		mustErr(t, "Tick", err, api.OK)
	}
	t.Fatalf("it does not lead: %+v", r.Status())
}

func propose(t *testing.T, r *replica.Replica, commands ...[]byte) []api.Message {
	t.Helper()
	var out []api.Message
	for _, c := range commands {
		_, _, l, err := r.Propose(c)
		mustErr(t, "Propose", err, api.OK)
		out = append(out, l...)
	}
	return out
}

func receive(t *testing.T, r *replica.Replica, m api.Message) []api.Message {
	t.Helper()
	l, err := r.Receive(m, 0)
	mustErr(t, "Receive "+messageText(m), err, api.OK)
	return l
}

func tick(t *testing.T, r *replica.Replica) []api.Message {
	t.Helper()
	l, err := r.Tick(0)
	mustErr(t, "Tick", err, api.OK)
	return l
}

func flush(t *testing.T, r *replica.Replica) {
	t.Helper()
	mustErr(t, "Flush", r.Flush(), api.OK)
}

// raftMsg is a message of raft, from one peer to another.
func raftMsg(m api.Msg) api.Message {
	return api.Message{Kind: api.PRaft, From: m.From, To: m.To, Raft: m}
}

// appending is what the peer 1 sends the peer 2 in a term: these entries behind an index, and how far it is committed.
func appending(term, index, logTerm, commit int, l ...api.LogEntry) api.Message {
	return raftMsg(api.Msg{Kind: api.MAppend, From: 1, To: 2, Term: term, Index: index, LogTerm: logTerm, Commit: commit, Entries: l})
}

// entries are noops from an index on, of one term.
func entries(t *testing.T, from, n, term int) []api.LogEntry {
	var l []api.LogEntry
	for i := range n {
		l = append(l, api.LogEntry{Index: from + i, Term: term, Data: put(t, fmt.Sprint("row", from+i), "v")})
	}
	return l
}

// saved is what a disk's journal says.
type saved struct {
	hard           api.Hard
	base, baseTerm int
	log            []api.LogEntry
}

func (s saved) last() int { return s.base + len(s.log) }

// journalOf reads the journal on a copy of a disk.
func journalOf(t *testing.T, d *disk.Disk) saved {
	t.Helper()
	j, err := journal.Open(copied(t, d, api.MaxDisk), "a", 1024)
	mustErr(t, "journal.Open", err, api.OK)
	base, term := j.Base()
	last, _ := j.Last()
	l, err := j.Entries(base+1, last)
	mustErr(t, "Entries", err, api.OK)
	return saved{j.Hard(), base, term, l}
}

// treeOf reads the tree on a copy of a disk.
func treeOf(t *testing.T, d *disk.Disk) *tree.Tree {
	t.Helper()
	x, err := tree.Open(copied(t, d, api.MaxDisk), "a", schema, config(1, 1).Tree)
	mustErr(t, "tree.Open", err, api.OK)
	return x
}

func digest(t *testing.T, r *replica.Replica) uint32 {
	t.Helper()
	sum, err := r.Machine().Digest()
	mustErr(t, "Digest", err, api.OK)
	return sum
}

// chunks cuts a snapshot's bytes into messages from the peer 1 to the peer 2, of so many bytes each.
func chunks(b []byte, index, term, size int) []api.Message {
	var out []api.Message
	for at := 0; at < len(b); at += size {
		out = append(out, api.Message{Kind: api.PChunk, From: 1, To: 2, Index: index, Term: term, At: at, Total: len(b), Data: b[at:min(at+size, len(b))]})
	}
	return out
}

// image is that of a node alone behind so many commands, a session's beginning and puts, and the term of its index.
func image(t *testing.T, n int, value string) (api.Image, int) {
	t.Helper()
	r, _ := alone(t, 1<<22, config(1, 1))
	propose(t, r, encode(t, api.Command{Kind: api.MOpen}))
	for i := range n - 1 {
		propose(t, r, put(t, fmt.Sprint("row", i), value))
		if i == n/2 {
			flush(t, r)
		}
	}
	flush(t, r)
	x, err := r.Tree().Image()
	mustErr(t, "Image", err, api.OK)
	return x, 1
}

// follower is the peer 2 of three, which has heard of a leader in a term, and its disk.
func follower(t *testing.T, capacity, term int, l ...api.LogEntry) (*replica.Replica, *disk.Disk) {
	t.Helper()
	d := newDisk(t, capacity)
	r := open(t, d, config(2, 3))
	receive(t, r, appending(term, 0, 0, 0, l...))
	return r, d
}
