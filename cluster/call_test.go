package cluster_test

import (
	"math"
	"slices"
	"testing"

	"strata/api"
	"strata/cluster"
	"strata/order"
)

// naming is a call that names a node, and maybe a tablet; all else of it is wrong too, where it can be.
type naming struct {
	name   string
	tablet bool // it names one
	call   func(x *cluster.Cluster, node, tablet int) (zero bool, err api.Errno)
}

// namings are all calls that name a node that is to be on.
func namings() []naming {
	closed := make(chan struct{})
	close(closed)
	bad := api.Query{N: -1}
	return []naming{
		{"Tick", false, func(x *cluster.Cluster, node, _ int) (bool, api.Errno) { return true, x.Tick(node, 0) }},
		{"Propose", true, func(x *cluster.Cluster, node, tablet int) (bool, api.Errno) {
			i, term, err := x.Propose(node, tablet, api.Command{Kind: 99})
			return i == 0 && term == 0, err
		}},
		{"HandOver", true, func(x *cluster.Cluster, node, tablet int) (bool, api.Errno) {
			return true, x.HandOver(node, tablet, -1)
		}},
		{"Answers", true, func(x *cluster.Cluster, node, tablet int) (bool, api.Errno) {
			l, err := x.Answers(node, tablet)
			return l == nil, err
		}},
		{"Query", true, func(x *cluster.Cluster, node, tablet int) (bool, api.Errno) {
			p, err := x.Query(node, tablet, bad)
			return pageText(p) == pageText(api.Page{}), err
		}},
		{"Scan", false, func(x *cluster.Cluster, node, _ int) (bool, api.Errno) {
			p, err := x.Scan(closed, node, bad)
			return pageText(p) == pageText(api.Page{}), err
		}},
		{"Flush", true, func(x *cluster.Cluster, node, tablet int) (bool, api.Errno) { return true, x.Flush(node, tablet) }},
		{"Compact", true, func(x *cluster.Cluster, node, tablet int) (bool, api.Errno) {
			done, err := x.Compact(node, tablet, true, 100)
			return !done, err
		}},
		{"Arm", false, func(x *cluster.Cluster, node, _ int) (bool, api.Errno) { return true, x.Arm(node, 1) }},
		{"Crash", false, func(x *cluster.Cluster, node, _ int) (bool, api.Errno) { return true, x.Crash(node) }},
		{"Status", true, func(x *cluster.Cluster, node, tablet int) (bool, api.Errno) {
			s, err := x.Status(node, tablet)
			return s == api.Status{}, err
		}},
		{"Log", true, func(x *cluster.Cluster, node, tablet int) (bool, api.Errno) {
			l, err := x.Log(node, tablet)
			return l == nil, err
		}},
		{"Dump", true, func(x *cluster.Cluster, node, tablet int) (bool, api.Errno) {
			l, err := x.Dump(node, tablet)
			return l == nil, err
		}},
	}
}

// 19.4 and on: a node that is not there, or off, is ErrNode, and then a tablet that is not there ErrTablet, ahead of all that a call says itself; and nothing changes.
func TestNamingNodesAndTablets(t *testing.T) {
	x := led(t, 3, "m")
	propose(t, x, 0, put("a", "v"), put("z", "v"))
	mustErr(t, "Flush", x.Flush(0, 0), api.OK)
	mustErr(t, "Crash", x.Crash(2), api.OK)
	tick(t, x, 0)
	before := wholeText(x, 3, 2)
	for _, c := range namings() {
		for _, node := range []int{-1, 2, 3, math.MinInt, math.MaxInt} {
			for _, tablet := range []int{0, 1, 2, -1} {
				if zero, err := c.call(x, node, tablet); !zero || err != api.ErrNode {
					t.Errorf("%s(%d, %d): %v, %d", c.name, node, tablet, zero, err)
				}
			}
		}
		for _, tablet := range []int{-1, 2, 3, math.MinInt, math.MaxInt} {
			if !c.tablet {
				continue
			}
			if zero, err := c.call(x, 0, tablet); !zero || err != api.ErrTablet {
				t.Errorf("%s(0, %d): %v, %d", c.name, tablet, zero, err)
			}
		}
	}
	if wholeText(x, 3, 2) != before {
		t.Error("a refused call has changed something")
	}
	for _, c := range namings() {
		if c.name == "Crash" {
			continue
		}
		if _, err := c.call(x, 1, 1); err == api.ErrNode && c.name != "HandOver" || err == api.ErrTablet {
			t.Errorf("%s(1, 1): %d", c.name, err)
		}
	}
}

// 19.10, 19.11: Start is refused where a node is on, or is none; Files tells those of a node that is off, too.
func TestNamingNodesThatAreOff(t *testing.T) {
	x := led(t, 3, "m")
	before := wholeText(x, 3, 2)
	for _, node := range []int{-1, 0, 1, 2, 3, math.MinInt, math.MaxInt} {
		mustErr(t, "Start", x.Start(node, 0), api.ErrNode)
	}
	for _, node := range []int{-1, 3, math.MinInt, math.MaxInt} {
		l, err := x.Files(node)
		if l != nil || err != api.ErrNode {
			t.Errorf("Files(%d): %v, %d", node, l, err)
		}
	}
	if wholeText(x, 3, 2) != before {
		t.Error("a refused call has changed something")
	}
	had := filesText(files(t, x, 1))
	mustErr(t, "Crash", x.Crash(1), api.OK)
	if got := filesText(files(t, x, 1)); got != had || had == "" {
		t.Errorf("off: %s\non: %s", got, had)
	}
}

// 19.7: what Propose refuses, in its order; whoever does not lead tells so.
func TestPropose(t *testing.T) {
	x := led(t, 3, "m")
	before := wholeText(x, 3, 2)
	strange := put("z", "v")
	strange.Ops[0].Fam = 2
	for i, c := range []struct {
		node, tablet int
		c            api.Command
		want         api.Errno
	}{
		{0, 0, api.Command{}, api.ErrCommandKind},
		{0, 0, api.Command{Kind: api.MMutate}, api.ErrRow},
		{0, 0, api.Command{Kind: api.MTick}, api.ErrAmount},
		{0, 0, api.Command{Kind: api.MRead}, api.ErrQuery},
		// The command's own error comes ahead of its row's tablet.
		{0, 0, strange, api.ErrOp},
		{0, 1, strange, api.ErrOp},
		{0, 0, put("z", "v"), api.ErrTablet},
		{0, 0, put("m", "v"), api.ErrTablet},
		{0, 1, put("l\xff", "v"), api.ErrTablet},
		{0, 1, put("a", "v"), api.ErrTablet},
		// And that ahead of what the replica says.
		{1, 0, put("z", "v"), api.ErrTablet},
		{1, 0, put("a", "v"), api.ErrNotLeader},
		{2, 1, put("z", "v"), api.ErrNotLeader},
	} {
		index, term, err := x.Propose(c.node, c.tablet, c.c)
		if index != 0 || term != 0 || err != c.want {
			t.Errorf("row %d: %d, %d, %d, want %d", i, index, term, err, c.want)
		}
	}
	if wholeText(x, 3, 2) != before {
		t.Error("a refused call has changed something")
	}
	// Which rows a read asks for is not looked at, nor has any other command a tablet of its own.
	for i, c := range []api.Command{noop, {Kind: api.MTick, N: 1}, {Kind: api.MRead, Query: api.Query{From: []byte("z"), N: 1, Rows: 1}}, {Kind: api.MOpen}, put("l\xff", "v")} {
		index, term, err := x.Propose(0, 0, c)
		if index != 2+i || term != 1 || err != api.OK {
			t.Errorf("%+v: %d, %d, %d", c, index, term, err)
		}
	}
}

// 19.7: what is proposed is in the log of that tablet, as order writes it, and its messages are sent.
func TestWhatIsProposedIsSent(t *testing.T) {
	x := led(t, 3, "m")
	c := put("m", "v")
	index, term, err := x.Propose(0, 1, c)
	if index != 2 || term != 1 || err != api.OK {
		t.Fatalf("Propose: %d, %d, %d", index, term, err)
	}
	if l := lines(x.Packets()); !slices.Equal(l, []string{"1:1>2", "1:1>3"}) {
		t.Errorf("under way: %v", l)
	}
	log, err := x.Log(0, 1)
	if err != api.OK || len(log) != 2 || string(log[1].Data) != string(encode(t, c)) {
		t.Errorf("Log: %s, %d", logText(log), err)
	}
	settle(t, x)
	for node := range 3 {
		if s := status(t, x, node, 0); s.Last != 1 {
			t.Errorf("node %d, tablet 0: %+v", node, s)
		}
		if s := status(t, x, node, 1); s.Last != 2 {
			t.Errorf("node %d, tablet 1: %+v", node, s)
		}
	}
}

// 19.7: HandOver is to a node, by its number; what it sends is sent.
func TestHandOver(t *testing.T) {
	x := led(t, 3, "m")
	for _, peer := range []int{-1, 3, math.MinInt, math.MaxInt} {
		mustErr(t, "HandOver", x.HandOver(0, 0, peer), api.ErrNode)
	}
	mustErr(t, "to itself", x.HandOver(0, 0, 0), api.ErrEvent)
	mustErr(t, "of no leader", x.HandOver(1, 0, 2), api.ErrNotLeader)
	mustErr(t, "HandOver", x.HandOver(0, 1, 2), api.OK)
	l := x.Packets()
	if !slices.Equal(lines(l), []string{"1:1>3"}) || l[0].Message.Raft.Kind != api.MHandOver {
		t.Errorf("under way: %s", packetsText(l))
	}
	settle(t, x)
	if a, b := status(t, x, 0, 0), status(t, x, 2, 1); a.Role != api.RLeader || b.Role != api.RLeader {
		t.Errorf("%+v, %+v", a, b)
	}
	// To one that is off it is begun all the same; but the packet is lost.
	mustErr(t, "Crash", x.Crash(1), api.OK)
	mustErr(t, "HandOver", x.HandOver(0, 0, 1), api.OK)
	if l := lines(x.Packets()); len(l) > 0 {
		t.Errorf("under way: %v", l)
	}
	_, _, err := x.Propose(0, 0, noop)
	mustErr(t, "Propose", err, api.ErrHandOver)
}

// 19.8: answers are told once, at the node that took the proposal, for its tablet.
func TestAnswers(t *testing.T) {
	x := led(t, 3, "m")
	propose(t, x, 0, api.Command{Kind: api.MOpen}, put("z", "v"))
	for node := range 3 {
		for tablet := range 2 {
			l, err := x.Answers(node, tablet)
			mustErr(t, "Answers", err, api.OK)
			if node > 0 && len(l) > 0 || node == 0 && (len(l) != 1 || l[0].Index != 2 || l[0].Term != 1) {
				t.Errorf("node %d, tablet %d: %s", node, tablet, answersText(l))
				continue
			}
			if node > 0 {
				continue
			}
			r, err := order.DecodeReply(l[0].Reply)
			if err != api.OK || r.Held != (tablet == 1) || r.Value != 2*(1-tablet) {
				t.Errorf("tablet %d: %+v, %d", tablet, r, err)
			}
			if l, err := x.Answers(node, tablet); len(l) > 0 || err != api.OK {
				t.Errorf("tablet %d once more: %s, %d", tablet, answersText(l), err)
			}
		}
	}
}

// 19.8: Query, Flush, Compact, Status and Log are those of that node's replica of that tablet, and of no other.
func TestCallsOfOneReplica(t *testing.T) {
	x := led(t, 3, "m")
	propose(t, x, 0, put("a", "v"), put("z", "w"))
	tick(t, x, 0)
	settle(t, x)
	p, err := x.Query(1, 0, all)
	if err != api.OK || rowsOf(p) != "a " {
		t.Errorf("Query: %s, %d", pageText(p), err)
	}
	p, err = x.Query(1, 1, api.Query{N: 1, Rows: 1})
	if err != api.OK || rowsOf(p) != "z " || string(p.Rows[0].Cells[0].Value) != "w" {
		t.Errorf("Query: %s, %d", pageText(p), err)
	}
	_, err = x.Query(1, 1, api.Query{})
	mustErr(t, "Query", err, api.ErrQuery)
	mustErr(t, "Flush", x.Flush(1, 1), api.OK)
	for node := range 3 {
		for tablet := range 2 {
			s, flushed := status(t, x, node, tablet), 0
			if node == 1 && tablet == 1 {
				flushed = 2
			}
			if s.Applied != 2 || s.Flushed != flushed || s.First != flushed+1 || s.ID != node+1 {
				t.Errorf("node %d, tablet %d: %+v", node, tablet, s)
			}
			log, err := x.Log(node, tablet)
			if err != api.OK || len(log) != 2-flushed {
				t.Errorf("node %d, tablet %d: %s, %d", node, tablet, logText(log), err)
			}
		}
	}
	for i, want := range []bool{false, false, true, false} {
		// A node without a run has nothing to compact; the one run has one entry: a step of none, then of one.
		node, n := min(i, 1), i-1
		if i == 3 {
			node = 2
		}
		done, err := x.Compact(node, 1, true, n)
		if done != want || err != api.OK {
			t.Errorf("Compact %d: %v, %d", i, done, err)
		}
	}
}
