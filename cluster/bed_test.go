package cluster_test

import (
	"bytes"
	"fmt"
	"hash/crc32"
	"maps"
	"slices"
	"testing"

	"strata/api"
	"strata/cluster"
	"strata/order"
)

var schema = api.Schema{Fams: []api.Family{{Name: "f", Max: 2}, {Name: "g", Max: 3, TTL: 30}}}

// all asks for everything, at the last time.
var all = api.Query{Time: api.MaxTime, N: 2, Rows: 1000}

// config is that of a cluster of so many nodes, split at these rows.
func config(nodes int, splits ...string) api.ClusterConfig {
	c := api.ClusterConfig{
		Nodes:  nodes,
		Disk:   1 << 20,
		Schema: schema,
		Replica: api.ReplicaConfig{
			Raft:    api.RaftConfig{Least: 3, Most: 6, Beat: 1, Batch: 4},
			Tree:    api.Options{Block: 256, Bits: 8, Mem: 1 << 16, Stall: 8},
			Policy:  api.Policy{Width: 2, Ratio: 4, Most: 8},
			Segment: 1024,
		},
	}
	for _, s := range splits {
		c.Splits = append(c.Splits, []byte(s))
	}
	return c
}

func mustErr(t *testing.T, what string, got, want api.Errno) {
	t.Helper()
	if got != want {
		t.Fatalf("%s: error %d, want %d", what, got, want)
	}
}

func begin(t *testing.T, c api.ClusterConfig) *cluster.Cluster {
	t.Helper()
	x, err := cluster.New(c)
	if x == nil || err != api.OK {
		t.Fatalf("New: %v, %d", x, err)
	}
	return x
}

var noop = api.Command{Kind: api.MNoop}

func put(row, value string) api.Command {
	return api.Command{Kind: api.MMutate, Row: []byte(row), Ops: []api.Op{{Kind: api.OPut, Qual: []byte("q"), Value: []byte(value)}}}
}

// puts is a command of many bytes: so many puts of 4096 each.
func puts(row string, n int, fill byte) api.Command {
	c := api.Command{Kind: api.MMutate, Row: []byte(row)}
	for i := range n {
		c.Ops = append(c.Ops, api.Op{Kind: api.OPut, Qual: []byte{byte('a' + i)}, Value: bytes.Repeat([]byte{fill}, 4096)})
	}
	return c
}

func encode(t *testing.T, c api.Command) []byte {
	t.Helper()
	b, err := order.Encode(schema, c)
	mustErr(t, "Encode", err, api.OK)
	return b
}

func tick(t *testing.T, x *cluster.Cluster, node int) {
	t.Helper()
	mustErr(t, "Tick", x.Tick(node, 0), api.OK)
}

// settle delivers all that is under way, and what is answered to it, the oldest first.
func settle(t *testing.T, x *cluster.Cluster) {
	t.Helper()
	for i := 0; len(x.Packets()) > 0; i++ {
		if i > 10000 {
			t.Fatal("they talk for ever")
		}
		mustErr(t, "Deliver", x.Deliver(0, 3), api.OK)
	}
}

// clear loses all that is under way.
func clear(t *testing.T, x *cluster.Cluster) {
	t.Helper()
	for len(x.Packets()) > 0 {
		mustErr(t, "Drop", x.Drop(0), api.OK)
	}
}

func status(t *testing.T, x *cluster.Cluster, node, tablet int) api.Status {
	t.Helper()
	s, err := x.Status(node, tablet)
	mustErr(t, "Status", err, api.OK)
	return s
}

// lead ticks a node till it leads all tablets.
func lead(t *testing.T, x *cluster.Cluster, node, tablets int) {
	t.Helper()
	for range 20 {
		led := 0
		for k := range tablets {
			if status(t, x, node, k).Role == api.RLeader {
				led++
			}
		}
		if led == tablets {
			return
		}
		tick(t, x, node)
		settle(t, x)
	}
	t.Fatalf("the node %d does not lead", node)
}

// alone is a cluster of one node, which leads all its tablets.
func alone(t *testing.T, splits ...string) *cluster.Cluster {
	t.Helper()
	x := begin(t, config(1, splits...))
	lead(t, x, 0, len(splits)+1)
	return x
}

// led is a cluster that the node 0 leads, with nothing under way.
func led(t *testing.T, nodes int, splits ...string) *cluster.Cluster {
	t.Helper()
	x := begin(t, config(nodes, splits...))
	lead(t, x, 0, len(splits)+1)
	tick(t, x, 0)
	settle(t, x)
	return x
}

// propose proposes commands at a node, each to the tablet of its row, and settles.
func propose(t *testing.T, x *cluster.Cluster, node int, l ...api.Command) {
	t.Helper()
	for _, c := range l {
		_, _, err := x.Propose(node, x.Route(c.Row), c)
		mustErr(t, "Propose", err, api.OK)
		settle(t, x)
	}
}

func files(t *testing.T, x *cluster.Cluster, node int) []api.File {
	t.Helper()
	l, err := x.Files(node)
	mustErr(t, "Files", err, api.OK)
	return l
}

// short: bytes, of many only a beginning, their number and a sum.
func short(b []byte) string {
	if len(b) <= 24 {
		return fmt.Sprintf("%x", b)
	}
	return fmt.Sprintf("%x..%d..%08x", b[:8], len(b), crc32.ChecksumIEEE(b))
}

func packetsText(l []api.Packet) string {
	out := ""
	for _, p := range l {
		out += fmt.Sprintf("tablet %d: %s\n", p.Tablet, messageText(p.Message))
	}
	return out
}

func messageText(m api.Message) string {
	entries := logText(m.Raft.Entries)
	m.Raft.Entries = nil
	data := m.Data
	m.Data = nil
	return fmt.Sprintf("%+v entries %s data %s", m, entries, short(data))
}

func logText(l []api.LogEntry) string {
	out := ""
	for _, e := range l {
		out += fmt.Sprintf("(%d %d %s)", e.Index, e.Term, short(e.Data))
	}
	return out
}

func answersText(l []api.Answered) string {
	out := ""
	for _, a := range l {
		out += fmt.Sprintf("(%d %d %s)", a.Index, a.Term, short(a.Reply))
	}
	return out
}

func filesText(l []api.File) string {
	out := ""
	for _, f := range l {
		out += fmt.Sprintf("%s %d of %d: %s\n", f.Name, f.Synced, len(f.Data), short(f.Data))
	}
	return out
}

func entriesText(l []api.Entry) string {
	out := ""
	for _, e := range l {
		out += fmt.Sprintf("(%x %d %x %d %d %d %s)", e.Row, e.Fam, e.Qual, e.Ts, e.Seq, e.Kind, short(e.Value))
	}
	return out
}

func dumpText(l [][]api.Entry) string {
	out := ""
	for _, r := range l {
		out += entriesText(r) + "\n"
	}
	return out
}

func pageText(p api.Page) string {
	out := ""
	for _, r := range p.Rows {
		out += fmt.Sprintf("%x:", r.Row)
		for _, c := range r.Cells {
			out += fmt.Sprintf(" (%d %x %d %s)", c.Fam, c.Qual, c.Ts, short(c.Value))
		}
		out += "\n"
	}
	return fmt.Sprintf("%stoken %x done %v", out, p.Token, p.Done)
}

// rowsOf: the rows of a page, by their names.
func rowsOf(p api.Page) string {
	out := ""
	for _, r := range p.Rows {
		out += string(r.Row) + " "
	}
	return out
}

// face is what may be called on a cluster, and on what the chapter says of one, told a second time.
type face interface {
	Route(row []byte) int
	Tick(node, draw int) api.Errno
	Packets() []api.Packet
	Deliver(i, draw int) api.Errno
	Drop(i int) api.Errno
	Double(i int) api.Errno
	Propose(node, tablet int, c api.Command) (int, int, api.Errno)
	HandOver(node, tablet, peer int) api.Errno
	Answers(node, tablet int) ([]api.Answered, api.Errno)
	Query(node, tablet int, q api.Query) (api.Page, api.Errno)
	Scan(done <-chan struct{}, node int, q api.Query) (api.Page, api.Errno)
	Flush(node, tablet int) api.Errno
	Compact(node, tablet int, major bool, n int) (bool, api.Errno)
	Arm(node, n int) api.Errno
	Crash(node int, cuts ...int) api.Errno
	Start(node, draw int) api.Errno
	Status(node, tablet int) (api.Status, api.Errno)
	Log(node, tablet int) ([]api.LogEntry, api.Errno)
	Dump(node, tablet int) ([][]api.Entry, api.Errno)
	Files(node int) ([]api.File, api.Errno)
}

// nodeText: all that a node tells of itself.
func nodeText(x face, node, tablets int) string {
	l, err := x.Files(node)
	out := fmt.Sprintf("%d %s", err, filesText(l))
	for k := range tablets {
		s, err := x.Status(node, k)
		log, _ := x.Log(node, k)
		dump, down := x.Dump(node, k)
		out += fmt.Sprintf("%d %+v %s %d %s\n", err, s, logText(log), down, dumpText(dump))
	}
	return out
}

// wholeText: all that a cluster tells of itself, but for answers, which are told once.
func wholeText(x face, nodes, tablets int) string {
	out := packetsText(x.Packets())
	for i := range nodes {
		out += nodeText(x, i, tablets)
	}
	return out
}

// manySeeds does something for each seed, many side by side, and tells what was counted.
func manySeeds(t *testing.T, seeds int, do func(t *testing.T, seed int, count map[string]int)) map[string]int {
	t.Helper()
	const parts = 16
	counts := make([]map[string]int, parts)
	t.Run("seeds", func(t *testing.T) {
		for i := range parts {
			counts[i] = map[string]int{}
			t.Run(fmt.Sprint(i), func(t *testing.T) {
				t.Parallel()
				for seed := i; seed < seeds; seed += parts {
					do(t, seed, counts[i])
				}
			})
		}
	})
	total := map[string]int{}
	for _, c := range counts {
		for k, n := range c {
			total[k] += n
		}
	}
	for _, k := range slices.Sorted(maps.Keys(total)) {
		t.Log(k, total[k])
	}
	return total
}

// atLeast fails where something came less often than a test needs to mean anything.
func atLeast(t *testing.T, total, least map[string]int) {
	t.Helper()
	for k, n := range least {
		if total[k] < n {
			t.Errorf("%s came %d times", k, total[k])
		}
	}
}
