package cluster_test

import (
	"fmt"
	"math"
	"slices"
	"testing"

	"strata/api"
	"strata/cluster"
)

// begun is a cluster of three nodes and two tablets; the node 0 has begun an election: four packets are under way.
func begun(t *testing.T) *cluster.Cluster {
	t.Helper()
	x := begin(t, config(3, "m"))
	for range 3 {
		tick(t, x, 0)
	}
	if l := lines(x.Packets()); !slices.Equal(l, []string{"0:1>2", "0:1>3", "1:1>2", "1:1>3"}) {
		t.Fatalf("under way: %v", l)
	}
	return x
}

// lines: of packets the tablet, the sender and the receiver.
func lines(l []api.Packet) []string {
	var out []string
	for _, p := range l {
		out = append(out, fmt.Sprintf("%d:%d>%d", p.Tablet, p.Message.From, p.Message.To))
	}
	return out
}

// 19.4 to 19.6: packets stand in the order in which they were sent; a packet that comes is taken out, and what is answered stands behind all others.
func TestPacketsStandInOrder(t *testing.T) {
	x := begun(t)
	mustErr(t, "Deliver", x.Deliver(2, 0), api.OK)
	if l := lines(x.Packets()); !slices.Equal(l, []string{"0:1>2", "0:1>3", "1:1>3", "1:2>1"}) {
		t.Errorf("under way: %v", l)
	}
	mustErr(t, "Drop", x.Drop(1), api.OK)
	if l := lines(x.Packets()); !slices.Equal(l, []string{"0:1>2", "1:1>3", "1:2>1"}) {
		t.Errorf("under way: %v", l)
	}
	mustErr(t, "Double", x.Double(1), api.OK)
	l := x.Packets()
	if !slices.Equal(lines(l), []string{"0:1>2", "1:1>3", "1:2>1", "1:1>3"}) || packetsText(l[1:2]) != packetsText(l[3:]) {
		t.Errorf("under way: %s", packetsText(l))
	}
	// The answer elects the node 0 for the tablet 1 alone.
	mustErr(t, "Deliver", x.Deliver(2, 0), api.OK)
	if a, b := status(t, x, 0, 0), status(t, x, 0, 1); a.Role != api.RPre || b.Role != api.RCandidate {
		t.Errorf("%+v, %+v", a, b)
	}
	if l := lines(x.Packets()); !slices.Equal(l, []string{"0:1>2", "1:1>3", "1:1>3", "1:1>2", "1:1>3"}) {
		t.Errorf("under way: %v", l)
	}
}

// 19.6: there is no packet below 0, nor behind the last one; then nothing changes.
func TestNoSuchPacket(t *testing.T) {
	x := begun(t)
	before := wholeText(x, 3, 2)
	for _, i := range []int{-1, 4, 5, math.MinInt, math.MaxInt} {
		mustErr(t, "Deliver", x.Deliver(i, 0), api.ErrPacket)
		mustErr(t, "Drop", x.Drop(i), api.ErrPacket)
		mustErr(t, "Double", x.Double(i), api.ErrPacket)
	}
	if wholeText(x, 3, 2) != before {
		t.Error("a refused call has changed something")
	}
	clear(t, x)
	mustErr(t, "Deliver", x.Deliver(0, 0), api.ErrPacket)
	mustErr(t, "Drop", x.Drop(0), api.ErrPacket)
	mustErr(t, "Double", x.Double(0), api.ErrPacket)
}

// 19.6: the draw of a Deliver is the receiver's.
func TestDeliversDraw(t *testing.T) {
	for draw, want := range map[int]int{0: 3, 1: 4, 3: 6, 4: 3, -1: 6} {
		x := led(t, 3)
		tick(t, x, 0)
		mustErr(t, "Deliver", x.Deliver(0, draw), api.OK)
		clear(t, x)
		ticks := 0
		for len(x.Packets()) == 0 && ticks < 20 {
			tick(t, x, 1)
			ticks++
		}
		if ticks != want {
			t.Errorf("draw %d: it begins behind %d ticks, want %d", draw, ticks, want)
		}
	}
}

// 19.5: the draw of a Tick is the node's, for all its tablets.
func TestTicksDraw(t *testing.T) {
	for draw, want := range map[int]int{0: 3, 2: 5, 3: 6, -2: 5} {
		x := begin(t, config(3, "m"))
		for range 3 {
			mustErr(t, "Tick", x.Tick(0, draw), api.OK)
		}
		clear(t, x)
		for i := range want {
			if len(x.Packets()) > 0 {
				t.Errorf("draw %d: it begins anew behind %d ticks", draw, i)
			}
			mustErr(t, "Tick", x.Tick(0, 0), api.OK)
		}
		if len(x.Packets()) != 4 {
			t.Errorf("draw %d: %v behind %d ticks", draw, lines(x.Packets()), want)
		}
	}
}

// 19.4: what is sent to a node that is off is lost at once; what is under way to it stays, and is lost when it comes.
func TestReceiversThatAreOff(t *testing.T) {
	x := begun(t)
	mustErr(t, "Crash", x.Crash(2), api.OK)
	if l := lines(x.Packets()); !slices.Equal(l, []string{"0:1>2", "0:1>3", "1:1>2", "1:1>3"}) {
		t.Errorf("under way: %v", l)
	}
	mustErr(t, "Double", x.Double(1), api.OK)
	for range 6 {
		tick(t, x, 0)
	}
	l := lines(x.Packets())
	if len(l) < 6 || slices.Contains(l[4:], "0:1>3") || slices.Contains(l[4:], "1:1>3") {
		t.Errorf("under way: %v", l)
	}
	mustErr(t, "Deliver", x.Deliver(3, 0), api.OK)
	if got := lines(x.Packets()); !slices.Equal(got, slices.Delete(slices.Clone(l), 3, 4)) {
		t.Errorf("under way: %v", got)
	}
	// Whoever is on again gets what still is under way.
	mustErr(t, "Start", x.Start(2, 0), api.OK)
	mustErr(t, "Deliver", x.Deliver(1, 0), api.OK)
	if l := lines(x.Packets()); l[len(l)-1] != "0:3>1" {
		t.Errorf("under way: %v", l)
	}
	// And its own packets go on their way while it is off.
	mustErr(t, "Crash", x.Crash(2), api.OK)
	mustErr(t, "Deliver", x.Deliver(len(x.Packets())-1, 0), api.OK)
	if s := status(t, x, 0, 0); s.Role != api.RCandidate {
		t.Errorf("%+v", s)
	}
}

// 19.4: to one node 512 packets are under way at most, of all tablets and senders together; what is more is lost, and nothing else is.
func TestMaxPackets(t *testing.T) {
	x := begun(t)
	count := func(to int) int {
		n := 0
		for _, p := range x.Packets() {
			if p.Message.To == to {
				n++
			}
		}
		return n
	}
	for i := range 511 {
		if count(2) != 2+i {
			t.Fatalf("behind %d more there are %d", i, count(2))
		}
		if i == 510 {
			break
		}
		mustErr(t, "Double", x.Double(i%2*2), api.OK)
	}
	if count(2) != 512 || count(3) != 2 {
		t.Fatalf("%d to 2, %d to 3", count(2), count(3))
	}
	before := packetsText(x.Packets())
	mustErr(t, "Double", x.Double(0), api.OK)
	mustErr(t, "Double", x.Double(2), api.OK)
	if packetsText(x.Packets()) != before {
		t.Error("one more is under way")
	}
	mustErr(t, "Double", x.Double(1), api.OK)
	if count(2) != 512 || count(3) != 3 {
		t.Errorf("%d to 2, %d to 3", count(2), count(3))
	}
	// A tick sends to both; what is for 2 is lost.
	for range 6 {
		tick(t, x, 0)
	}
	if count(2) != 512 || count(3) < 5 {
		t.Errorf("%d to 2, %d to 3", count(2), count(3))
	}
	mustErr(t, "Drop", x.Drop(0), api.OK)
	mustErr(t, "Drop", x.Drop(1), api.OK)
	if count(2) != 510 {
		t.Fatalf("%d to 2", count(2))
	}
	for range 3 {
		mustErr(t, "Double", x.Double(len(x.Packets())/2), api.OK)
	}
	if count(2) != 512 {
		t.Errorf("%d to 2", count(2))
	}
}

// 19.4, 19.6: a packet that is taken out is under way no more when its answer is sent.
func TestTheAnswerFindsRoom(t *testing.T) {
	x := begun(t)
	// The node 1 begins too: so there are packets to the node 0, as many as can be.
	for range 4 {
		tick(t, x, 1)
	}
	for i, p := range x.Packets() {
		if p.Message.To != 1 {
			continue
		}
		for range 511 {
			mustErr(t, "Double", x.Double(i), api.OK)
		}
		break
	}
	l := lines(x.Packets())
	to2 := slices.Index(l, "0:1>2")
	mustErr(t, "Deliver", x.Deliver(to2, 0), api.OK)
	if got := lines(x.Packets()); len(got) != len(l)-1 {
		t.Errorf("the answer to a node with 512 packets is under way: %v", got[len(got)-1])
	}
	at := slices.IndexFunc(x.Packets(), func(p api.Packet) bool { return p.Message.To == 1 })
	mustErr(t, "Drop", x.Drop(at), api.OK)
	to3 := slices.Index(lines(x.Packets()), "0:1>3")
	mustErr(t, "Deliver", x.Deliver(to3, 0), api.OK)
	got := lines(x.Packets())
	if got[len(got)-1] != "0:3>1" {
		t.Errorf("the answer found no room: %s", got[len(got)-1])
	}
}

// halted is a cluster of three whose node 0 leads both tablets, with the replica of one of them halted for want of room.
func halted(t *testing.T, tablet int) *cluster.Cluster {
	t.Helper()
	c := config(3, "m")
	c.Disk = 4000
	x := begin(t, c)
	lead(t, x, 0, 2)
	row := []string{"a", "z"}[tablet]
	for range 100 {
		_, _, err := x.Propose(0, tablet, put(row, string(long(300))))
		clear(t, x)
		if err == api.ErrHalted {
			return x
		}
		mustErr(t, "Propose", err, api.OK)
	}
	t.Fatal("it has room without end")
	return nil
}

// 19.5: all replicas of a node get their tick, whatever others answer, and the first error is told.
func TestAllGetTheirTick(t *testing.T) {
	for tablet := range 2 {
		x := halted(t, tablet)
		mustErr(t, "Tick", x.Tick(0, 0), api.ErrHalted)
		other := fmt.Sprintf("%d:1>2", 1-tablet)
		if l := lines(x.Packets()); !slices.Equal(l, []string{other, fmt.Sprintf("%d:1>3", 1-tablet)}) {
			t.Errorf("the tablet %d has halted; under way: %v", tablet, l)
		}
	}
}

// 19.5: of several errors the first one is told: the tablet 0 has halted, and at an act of the tablet 1's the disk goes down.
func TestTheFirstErrorOfATick(t *testing.T) {
	c := config(1, "m")
	c.Disk, c.Replica.Tree.Mem = 9000, 2000
	x := begin(t, c)
	lead(t, x, 0, 2)
	_, _, err := x.Propose(0, 1, put("z", string(long(2100))))
	mustErr(t, "Propose", err, api.OK)
	for range 5 {
		mustErr(t, "Propose", err, api.OK)
		_, _, err = x.Propose(0, 0, put("a", string(long(1500))))
	}
	mustErr(t, "Propose", err, api.ErrHalted)
	// The memtable of the tablet 1 is full, so that its tick flushes.
	mustErr(t, "Arm", x.Arm(0, 1), api.OK)
	mustErr(t, "Tick", x.Tick(0, 0), api.ErrHalted)
	mustErr(t, "Tick behind it", x.Tick(0, 0), api.ErrDown)
}
