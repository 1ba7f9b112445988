package cluster_test

import (
	"fmt"
	"math"
	"slices"
	"strings"
	"testing"

	"strata/api"
	"strata/cluster"
)

func long(n int) []byte { return []byte(strings.Repeat("r", n)) }

// eight rows, rising.
func eight() [][]byte {
	var l [][]byte
	for i := range 8 {
		l = append(l, []byte{byte('a' + i)})
	}
	return l
}

// 19.1: which configurations may be; New refuses the same ones.
func TestCheck(t *testing.T) {
	for i, c := range []struct {
		turn func(c *api.ClusterConfig)
		want api.Errno
	}{
		{func(c *api.ClusterConfig) {}, api.OK},
		{func(c *api.ClusterConfig) { c.Nodes = 1 }, api.OK},
		{func(c *api.ClusterConfig) { c.Nodes = 7 }, api.OK},
		{func(c *api.ClusterConfig) { c.Nodes = 8 }, api.ErrConfig},
		{func(c *api.ClusterConfig) { c.Nodes = 0 }, api.ErrConfig},
		{func(c *api.ClusterConfig) { c.Nodes = -1 }, api.ErrConfig},
		{func(c *api.ClusterConfig) { c.Nodes = math.MaxInt }, api.ErrConfig},
		{func(c *api.ClusterConfig) { c.Nodes = math.MinInt }, api.ErrConfig},
		{func(c *api.ClusterConfig) { c.Disk = api.MaxDisk }, api.OK},
		{func(c *api.ClusterConfig) { c.Disk = api.MaxDisk + 1 }, api.ErrConfig},
		{func(c *api.ClusterConfig) { c.Disk = -1 }, api.ErrConfig},
		{func(c *api.ClusterConfig) { c.Schema.Fams = nil }, api.ErrSchema},
		{func(c *api.ClusterConfig) { c.Schema.Fams = []api.Family{{Name: "f", Max: 0}} }, api.ErrSchema},
		{func(c *api.ClusterConfig) { c.Schema.Fams = []api.Family{{Name: "f", Max: 1}, {Name: "f", Max: 1}} }, api.ErrSchema},
		{func(c *api.ClusterConfig) { c.Splits = nil }, api.OK},
		{func(c *api.ClusterConfig) { c.Splits = eight()[:7] }, api.OK},
		{func(c *api.ClusterConfig) { c.Splits = eight() }, api.ErrConfig},
		{func(c *api.ClusterConfig) { c.Splits = [][]byte{nil} }, api.ErrConfig},
		{func(c *api.ClusterConfig) { c.Splits = [][]byte{{}, []byte("a")} }, api.ErrConfig},
		{func(c *api.ClusterConfig) { c.Splits = [][]byte{{0}} }, api.OK},
		{func(c *api.ClusterConfig) { c.Splits = [][]byte{long(256)} }, api.OK},
		{func(c *api.ClusterConfig) { c.Splits = [][]byte{long(257)} }, api.ErrConfig},
		{func(c *api.ClusterConfig) { c.Splits = [][]byte{[]byte("a"), long(257)} }, api.ErrConfig},
		{func(c *api.ClusterConfig) { c.Splits = [][]byte{[]byte("a"), []byte("a")} }, api.ErrConfig},
		{func(c *api.ClusterConfig) { c.Splits = [][]byte{[]byte("b"), []byte("a")} }, api.ErrConfig},
		{func(c *api.ClusterConfig) { c.Splits = [][]byte{[]byte("a"), []byte("c"), []byte("b")} }, api.ErrConfig},
		{func(c *api.ClusterConfig) { c.Splits = [][]byte{[]byte("a"), []byte("aa"), []byte("b")} }, api.OK},
		{func(c *api.ClusterConfig) { c.Splits = [][]byte{[]byte("aa"), []byte("a")} }, api.ErrConfig},
		{func(c *api.ClusterConfig) { c.Splits = [][]byte{{0x7f}, {0x80}, {0xff}} }, api.OK},
		{func(c *api.ClusterConfig) { c.Replica.Policy = api.Policy{} }, api.ErrTiers},
		{func(c *api.ClusterConfig) { c.Replica.Policy.Width = 17 }, api.ErrTiers},
		{func(c *api.ClusterConfig) { c.Replica.Raft.Beat = 3 }, api.ErrRaft},
		{func(c *api.ClusterConfig) { c.Replica.Raft.Least = 7 }, api.ErrRaft},
		{func(c *api.ClusterConfig) { c.Replica.Raft.Most = 1001 }, api.ErrRaft},
		{func(c *api.ClusterConfig) { c.Replica.Raft.Batch = 17 }, api.ErrRaft},
		{func(c *api.ClusterConfig) { c.Replica.Tree.Block = 63 }, api.ErrOptions},
		{func(c *api.ClusterConfig) { c.Replica.Tree.Stall = 0 }, api.ErrOptions},
		{func(c *api.ClusterConfig) { c.Replica.Segment = 255 }, api.ErrSegment},
		{func(c *api.ClusterConfig) { c.Replica.Segment = 1<<20 + 1 }, api.ErrSegment},
		// What is said as ID and Peers is not looked at.
		{func(c *api.ClusterConfig) { c.Replica.Raft.ID, c.Replica.Raft.Peers = 9, []int{4, 4} }, api.OK},
		{func(c *api.ClusterConfig) { c.Replica.Raft.ID = -1 }, api.OK},
		// The first one tells.
		{func(c *api.ClusterConfig) { c.Nodes, c.Schema.Fams = 8, nil }, api.ErrConfig},
		{func(c *api.ClusterConfig) { c.Disk, c.Schema.Fams = -1, nil }, api.ErrConfig},
		{func(c *api.ClusterConfig) { c.Schema.Fams, c.Splits = nil, eight() }, api.ErrSchema},
		{func(c *api.ClusterConfig) { c.Splits, c.Replica.Policy = eight(), api.Policy{} }, api.ErrConfig},
		{func(c *api.ClusterConfig) { c.Replica.Policy, c.Replica.Raft.Beat = api.Policy{}, 3 }, api.ErrTiers},
		{func(c *api.ClusterConfig) { c.Replica.Raft.Beat, c.Replica.Tree.Block = 3, 63 }, api.ErrRaft},
		{func(c *api.ClusterConfig) { c.Replica.Tree.Block, c.Replica.Segment = 63, 255 }, api.ErrOptions},
	} {
		k := config(3, "m")
		c.turn(&k)
		x, err := cluster.New(k)
		if check := cluster.Check(k); err != c.want || check != c.want || (x != nil) != (c.want == api.OK) {
			t.Errorf("row %d: New: %v, %d, Check: %d, want %d", i, x, err, check, c.want)
		}
	}
}

// 19.1, 19.2: Disk is the room of each node's own disk, and of none is room enough to begin; whoever must write then halts.
func TestRoom(t *testing.T) {
	c := config(1, "m")
	c.Disk = 0
	x := begin(t, c)
	for range 2 {
		tick(t, x, 0)
	}
	mustErr(t, "Tick", x.Tick(0, 0), api.ErrHalted)
	c = config(3)
	c.Disk = 3000
	x = begin(t, c)
	lead(t, x, 0, 1)
	_, _, err := x.Propose(0, 0, put("a", string(long(2600))))
	mustErr(t, "Propose", err, api.OK)
	settle(t, x)
	_, _, err = x.Propose(0, 0, put("b", string(long(300))))
	mustErr(t, "Propose", err, api.ErrHalted)
	for node := range 3 {
		used := 0
		for _, f := range files(t, x, node) {
			used += len(f.Data)
		}
		if used < 2600 || used > 3000 {
			t.Errorf("node %d has %d bytes", node, used)
		}
	}
}

// 19.2: of a new cluster all nodes are on, with a replica of each tablet, and no packet is under way.
func TestNew(t *testing.T) {
	x := begin(t, config(3, "d", "m"))
	if l := x.Packets(); len(l) > 0 {
		t.Errorf("under way: %s", packetsText(l))
	}
	for node := range 3 {
		for tablet := range 3 {
			if s := status(t, x, node, tablet); s != (api.Status{ID: node + 1, Role: api.RFollower, First: 1}) {
				t.Errorf("node %d, tablet %d: %+v", node, tablet, s)
			}
			for _, f := range files(t, x, node) {
				if !strings.HasPrefix(f.Name, "t0.") && !strings.HasPrefix(f.Name, "t1.") && !strings.HasPrefix(f.Name, "t2.") {
					t.Errorf("node %d has the file %s", node, f.Name)
				}
			}
		}
		_, err := x.Status(node, 3)
		mustErr(t, "the tablet 3", err, api.ErrTablet)
	}
	_, err := x.Status(3, 0)
	mustErr(t, "the node 3", err, api.ErrNode)
}

// 19.2: each replica is opened with its node's number as the draw, so that their first timeouts are told by it.
func TestFirstDraws(t *testing.T) {
	c := config(7, "m")
	for node := range 7 {
		x := begin(t, c)
		ticks := 0
		for len(x.Packets()) == 0 && ticks < 20 {
			tick(t, x, node)
			ticks++
		}
		if want := 3 + node%4; ticks != want {
			t.Errorf("node %d begins behind %d ticks, want %d", node, ticks, want)
		}
	}
}

// 19.2: a node's peer in raft is its number and one, and all nodes are peers.
func TestPeers(t *testing.T) {
	x := begin(t, config(5))
	for len(x.Packets()) == 0 {
		tick(t, x, 3)
	}
	var to []int
	for _, p := range x.Packets() {
		if p.Message.From != 4 || p.Message.Raft.From != 4 {
			t.Errorf("from %d", p.Message.From)
		}
		to = append(to, p.Message.To)
	}
	if !slices.Equal(to, []int{1, 2, 3, 5}) {
		t.Errorf("to %v", to)
	}
}

// A cluster's layout: on a node's disk the files of the tablet k begin with t, k and a dot.
func TestPrefixes(t *testing.T) {
	x := alone(t, "b", "c", "d", "e", "f", "g", "h")
	for k, row := range []string{"a", "b", "c", "d", "e", "f", "g", "h"} {
		before := files(t, x, 0)
		propose(t, x, 0, put(row, "v"))
		mustErr(t, "Flush", x.Flush(0, k), api.OK)
		for _, f := range files(t, x, 0) {
			was := slices.ContainsFunc(before, func(o api.File) bool { return filesText([]api.File{o}) == filesText([]api.File{f}) })
			if !was && !strings.HasPrefix(f.Name, fmt.Sprintf("t%d.", k)) {
				t.Errorf("the tablet %d has the file %s", k, f.Name)
			}
		}
	}
}

// 19.3: the tablet that has a row, whatever bytes it is.
func TestRoute(t *testing.T) {
	for _, c := range []struct {
		splits []string
		rows   map[string]int
	}{
		{nil, map[string]int{"": 0, "a": 0, "\xff": 0}},
		{[]string{"m"}, map[string]int{"": 0, "a": 0, "l\xff\xff": 0, "m": 1, "m\x00": 1, "z": 1, "ma": 1, "\xff": 1}},
		{[]string{"b", "ba", "c"}, map[string]int{"": 0, "a": 0, "b": 1, "b\x00": 1, "b`\xff": 1, "ba": 2, "baa": 2, "bz": 2, "c": 3, "ca": 3}},
		{[]string{"\x00", "\x7f", "\x80", "\xff"}, map[string]int{"": 0, "\x00": 1, "\x00\x00": 1, "~": 1, "\x7f": 2, "\x80": 3, "\xfe": 3, "\xff": 4, "\xff\xff": 4}},
		{[]string{"a", "b", "c", "d", "e", "f", "g"}, map[string]int{"A": 0, "a": 1, "b": 2, "c": 3, "d": 4, "e": 5, "f": 6, "g": 7, "h": 7, strings.Repeat("f", 300): 6, strings.Repeat("g", 5000): 7}},
	} {
		x := begin(t, config(1, c.splits...))
		for row, want := range c.rows {
			if got := x.Route([]byte(row)); got != want {
				t.Errorf("%q: Route(%q): %d, want %d", c.splits, row, got, want)
			}
		}
	}
}
