package cluster_test

import (
	"bytes"
	"fmt"
	"slices"
	"strings"
	"testing"

	"strata/api"
	"strata/cluster"
)

// 19.10: Arm arms that node's disk alone; from its act on all that writes there is ErrDown, and the node is on still.
func TestArm(t *testing.T) {
	x := led(t, 3, "m")
	mustErr(t, "Arm", x.Arm(0, 2), api.OK)
	for _, n := range []int{0, -1} {
		// It is not armed any more.
		mustErr(t, "Arm", x.Arm(0, n), api.OK)
		propose(t, x, 0, put("a", "v"), put("z", "v"))
		mustErr(t, "Arm", x.Arm(0, 1), api.OK)
	}
	propose(t, x, 0)
	_, _, err := x.Propose(0, 1, put("z", "v"))
	mustErr(t, "Propose", err, api.ErrDown)
	mustErr(t, "Tick", x.Tick(0, 0), api.ErrDown)
	_, _, err = x.Propose(0, 0, put("a", "v"))
	mustErr(t, "the other tablet", err, api.ErrDown)
	mustErr(t, "Flush", x.Flush(0, 0), api.ErrDown)
	_, err = x.Dump(0, 0)
	mustErr(t, "Dump", err, api.ErrDown)
	_, err = x.Scan(nil, 0, all)
	mustErr(t, "Scan", err, api.ErrDown)
	if s := status(t, x, 0, 0); s.Applied != 3 {
		t.Errorf("%+v", s)
	}
	mustErr(t, "another node", x.Flush(1, 0), api.OK)
	mustErr(t, "Start", x.Start(0, 0), api.ErrNode)
	mustErr(t, "Arm", x.Arm(0, 1), api.OK)
	mustErr(t, "Crash", x.Crash(0), api.OK)
	mustErr(t, "Start", x.Start(0, 0), api.OK)
	// The new disk is up, and not armed.
	mustErr(t, "Flush", x.Flush(0, 0), api.OK)
	tick(t, x, 0)
}

// 19.10: a crash takes what a replica had in memory, and leaves what is on its disk; packets under way stay.
func TestCrashAndStart(t *testing.T) {
	x := led(t, 3, "m")
	propose(t, x, 0, put("a", "v"), put("z", "v"))
	mustErr(t, "Flush", x.Flush(0, 0), api.OK)
	propose(t, x, 0, put("b", "v"))
	tick(t, x, 0)
	under := packetsText(x.Packets())
	disk, log0, term := filesText(files(t, x, 0)), status(t, x, 0, 0), status(t, x, 0, 0).Term
	mustErr(t, "Crash", x.Crash(0), api.OK)
	if packetsText(x.Packets()) != under || under == "" {
		t.Error("packets under way do not stay")
	}
	if got := filesText(files(t, x, 0)); got != disk {
		t.Errorf("got %s\nwant %s", got, disk)
	}
	mustErr(t, "Start", x.Start(0, 0), api.OK)
	if got := filesText(files(t, x, 0)); got != disk {
		t.Errorf("got %s\nwant %s", got, disk)
	}
	if packetsText(x.Packets()) != under {
		t.Error("packets under way do not stay")
	}
	// What was flushed is applied; what was only logged is in the log; leadership, proposals and answers are gone.
	if s := status(t, x, 0, 0); s.Applied != 2 || s.Flushed != 2 || s.Last != log0.Last || s.Role != api.RFollower || s.Leader != 0 || s.Term != term {
		t.Errorf("%+v", s)
	}
	if s := status(t, x, 0, 1); s.Applied != 0 || s.Last != 2 {
		t.Errorf("%+v", s)
	}
	for tablet := range 2 {
		if l, err := x.Answers(0, tablet); len(l) > 0 || err != api.OK {
			t.Errorf("answers: %s, %d", answersText(l), err)
		}
	}
	if s := status(t, x, 1, 0); s.Applied != 3 {
		t.Errorf("another node: %+v", s)
	}
}

// 19.10: Start's draw is that of all the node's replicas.
func TestStartsDraw(t *testing.T) {
	for draw, want := range map[int]int{0: 3, 1: 4, 3: 6, -1: 6} {
		x := begin(t, config(3, "m"))
		mustErr(t, "Crash", x.Crash(1), api.OK)
		mustErr(t, "Start", x.Start(1, draw), api.OK)
		ticks := 0
		for len(x.Packets()) == 0 && ticks < 20 {
			tick(t, x, 1)
			ticks++
		}
		if ticks != want || len(x.Packets()) != 4 {
			t.Errorf("draw %d: %v behind %d ticks, want %d", draw, lines(x.Packets()), ticks, want)
		}
	}
}

// cutOff is a node alone whose disk went down at an append of its journal: the file with a tail, and its lengths.
func cutOff(t *testing.T) (*cluster.Cluster, api.File) {
	t.Helper()
	x := alone(t, "m")
	mustErr(t, "Arm", x.Arm(0, 1), api.OK)
	_, _, err := x.Propose(0, 0, put("a", "value"))
	mustErr(t, "Propose", err, api.ErrDown)
	for _, f := range files(t, x, 0) {
		if f.Synced < len(f.Data) {
			return x, f
		}
	}
	t.Fatal("there is no tail")
	return nil, api.File{}
}

// 19.10: of the files with a tail each keeps so many bytes of it as its number in cuts says; what is kept is synced.
func TestCrashsCuts(t *testing.T) {
	_, f := cutOff(t)
	tail := len(f.Data) - f.Synced
	for cut := -1; cut <= tail+1; cut++ {
		x, f := cutOff(t)
		mustErr(t, "Crash", x.Crash(0, cut), api.OK)
		l := files(t, x, 0)
		i := slices.IndexFunc(l, func(o api.File) bool { return o.Name == f.Name })
		want := f.Data[:f.Synced+min(max(cut, 0), tail)]
		if !bytes.Equal(l[i].Data, want) || l[i].Synced != len(want) {
			t.Errorf("cut %d: %d of %d bytes, %d synced", cut, len(l[i].Data), len(f.Data), l[i].Synced)
		}
		mustErr(t, "Start", x.Start(0, 0), api.OK)
		last := 1
		if cut >= tail {
			last = 2
		}
		if s := status(t, x, 0, 0); s.Last != last {
			t.Errorf("cut %d: %+v", cut, s)
		}
	}
	x, _ := cutOff(t)
	mustErr(t, "Crash", x.Crash(0), api.OK)
	mustErr(t, "Start", x.Start(0, 0), api.OK)
	if s := status(t, x, 0, 0); s.Last != 1 {
		t.Errorf("%+v", s)
	}
}

// 19.10: the new disk has the old one's capacity.
func TestStartLeavesTheRoom(t *testing.T) {
	c := config(1)
	c.Disk = 3000
	x := begin(t, c)
	lead(t, x, 0, 1)
	_, _, err := x.Propose(0, 0, put("a", string(long(2000))))
	mustErr(t, "Propose", err, api.OK)
	mustErr(t, "Crash", x.Crash(0), api.OK)
	mustErr(t, "Start", x.Start(0, 0), api.OK)
	lead(t, x, 0, 1)
	_, _, err = x.Propose(0, 0, put("b", string(long(500))))
	mustErr(t, "Propose", err, api.OK)
	_, _, err = x.Propose(0, 0, put("b", string(long(500))))
	mustErr(t, "Propose", err, api.ErrHalted)
}

// 19.10, W4: wherever the disk goes down, in whatever call, and whatever of the tails stays, the node starts again.
func TestPowerFailsAnywhere(t *testing.T) {
	calls := map[string]func(x *cluster.Cluster) api.Errno{
		"Propose": func(x *cluster.Cluster) api.Errno { _, _, err := x.Propose(0, 1, put("z", "w")); return err },
		"Flush":   func(x *cluster.Cluster) api.Errno { return x.Flush(0, 1) },
		"Compact": func(x *cluster.Cluster) api.Errno { _, err := x.Compact(0, 1, true, 100); return err },
	}
	for name, call := range calls {
		for act, ended := 1, false; !ended; act++ {
			if act > 30 {
				t.Fatalf("%s has acts without end", name)
			}
			for _, cuts := range [][]int{nil, {1}, {7}, {1000}} {
				x := alone(t, "m")
				propose(t, x, 0, put("a", "v"), put("z", "v"))
				mustErr(t, "Flush", x.Flush(0, 1), api.OK)
				propose(t, x, 0, put("z", "u"))
				mustErr(t, "Arm", x.Arm(0, act), api.OK)
				err := call(x)
				ended = err == api.OK
				if err != api.OK && err != api.ErrDown {
					t.Fatalf("%s, act %d: %d", name, act, err)
				}
				mustErr(t, "Crash", x.Crash(0, cuts...), api.OK)
				mustErr(t, "Start", x.Start(0, 0), api.OK)
				lead(t, x, 0, 2)
				p, err := x.Scan(nil, 0, all)
				if err != api.OK || rowsOf(p) != "a z " {
					t.Errorf("%s, act %d: %s, %d", name, act, pageText(p), err)
				}
			}
		}
	}
}

// 19.11: the entries of each run, in order, the newest run first; what is in the memtable alone is in none.
func TestDump(t *testing.T) {
	x := alone(t, "m")
	if l, err := x.Dump(0, 0); len(l) > 0 || err != api.OK {
		t.Errorf("Dump: %s, %d", dumpText(l), err)
	}
	propose(t, x, 0, put("b", "1"), put("a", "2"))
	mustErr(t, "Flush", x.Flush(0, 0), api.OK)
	propose(t, x, 0, put("c", "3"))
	mustErr(t, "Flush", x.Flush(0, 0), api.OK)
	propose(t, x, 0, put("d", "4"), put("z", "5"))
	mustErr(t, "Flush", x.Flush(0, 1), api.OK)
	for tablet, want := range [][]string{{"c/64=3", "a/48=2 b/32=1"}, {"z/32=5"}} {
		l, err := x.Dump(0, tablet)
		mustErr(t, "Dump", err, api.OK)
		var got []string
		for _, run := range l {
			text := ""
			for _, e := range run {
				text += fmt.Sprintf(" %s/%d=%s", e.Row, e.Seq, e.Value)
			}
			got = append(got, strings.TrimSpace(text))
		}
		if !slices.Equal(got, want) {
			t.Errorf("tablet %d: %q, want %q", tablet, got, want)
		}
	}
	// A compaction that is under way holds a view, and hinders nobody.
	_, err := x.Compact(0, 0, true, 1)
	mustErr(t, "Compact", err, api.OK)
	for range 200 {
		l, err := x.Dump(0, 0)
		if len(l) != 2 || err != api.OK {
			t.Fatalf("Dump: %s, %d", dumpText(l), err)
		}
	}
	done, err := x.Compact(0, 0, true, 100)
	if l, _ := x.Dump(0, 0); !done || err != api.OK || len(l) != 1 || len(l[0]) != 3 {
		t.Errorf("%v, %d, %s", done, err, dumpText(l))
	}
}
