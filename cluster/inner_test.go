package cluster

import (
	"fmt"
	"slices"
	"strings"
	"testing"

	"strata/api"
)

// led is a node alone that leads its tablets, with a run and something in memory in each.
func led(t *testing.T, splits ...string) *Cluster {
	t.Helper()
	c := api.ClusterConfig{
		Nodes:  1,
		Disk:   1 << 20,
		Schema: api.Schema{Fams: []api.Family{{Name: "f", Max: 2}}},
		Replica: api.ReplicaConfig{
			Raft:    api.RaftConfig{Least: 3, Most: 6, Beat: 1, Batch: 4},
			Tree:    api.Options{Block: 256, Bits: 8, Mem: 1 << 16, Stall: 8},
			Policy:  api.Policy{Width: 2, Ratio: 4, Most: 8},
			Segment: 1024,
		},
	}
	for _, s := range splits {
		c.Splits = append(c.Splits, []byte(s))
	}
	x, err := New(c)
	if err != api.OK {
		t.Fatalf("New: %d", err)
	}
	for range 3 {
		x.Tick(0, 0)
	}
	for i := range 120 {
		row := fmt.Appendf(nil, "%c%d", 'a'+i%26, i)
		p := api.Command{Kind: api.MMutate, Row: row, Ops: []api.Op{{Kind: api.OPut, Qual: []byte("q"), Value: row}}}
		if _, _, err := x.Propose(0, x.Route(row), p); err != api.OK {
			t.Fatalf("Propose: %d", err)
		}
		if i == 60 {
			for tablet := range len(splits) + 1 {
				if err := x.Flush(0, tablet); err != api.OK {
					t.Fatalf("Flush: %d", err)
				}
			}
		}
	}
	return x
}

func (x *Cluster) pins() []int {
	var out []int
	for _, r := range x.on[0] {
		out = append(out, r.Tree().Pins())
	}
	return out
}

// 19.9, 19.11: wherever a scan or a dump ends, no view is left held.
func TestNoViewIsLeft(t *testing.T) {
	x := led(t, "g", "p")
	stop := api.NewStop()
	stop.Close()
	for _, q := range []api.Query{{N: 1, Rows: 1}, {N: 1, Rows: 1, Reverse: true}, {N: 1, Rows: 1000}, {N: 1, Rows: 50, Reverse: true}, {N: 1, Rows: 3, To: []byte("b")}, {Rows: 1}} {
		for time := range 3 {
			q.Time = time
			x.Scan(nil, 0, q)
			x.Scan(make(chan struct{}), 0, q)
			x.Scan(stop.Done(), 0, q)
			if l := x.pins(); !slices.Equal(l, []int{0, 0, 0}) {
				t.Fatalf("%+v: views held: %v", q, l)
			}
		}
	}
	for tablet := range 3 {
		if _, err := x.Dump(0, tablet); err != api.OK {
			t.Errorf("Dump: %d", err)
		}
	}
	if l := x.pins(); !slices.Equal(l, []int{0, 0, 0}) {
		t.Errorf("views held: %v", l)
	}
}

// 19.9: a tablet whose rows can't be told is told, the first in the tablets' order, also of a scan that goes backward, and no view of the others is left.
func TestScanTellsATabletsError(t *testing.T) {
	for _, back := range []bool{false, true} {
		x := led(t, "g", "p")
		// Somebody else holds all views but one of the tablet 1's: chapter 15 leaves that one to commands.
		for range api.MaxPins - 1 {
			if _, err := x.on[0][1].Tree().Pin(); err != api.OK {
				t.Fatalf("Pin: %d", err)
			}
		}
		p, err := x.Scan(nil, 0, api.Query{Time: 1, N: 1, Rows: 1, Reverse: back})
		if err != api.ErrPins || len(p.Rows) > 0 || p.Token != nil || p.Done {
			t.Errorf("backward %v: %v, %d", back, p, err)
		}
		if l := x.pins(); !slices.Equal(l, []int{0, api.MaxPins - 1, 0}) {
			t.Errorf("backward %v: views held: %v", back, l)
		}
		// Dump needs but one.
		if _, err := x.Dump(0, 1); err != api.OK {
			t.Errorf("Dump: %d", err)
		}
		if _, err := x.on[0][1].Tree().Pin(); err != api.OK {
			t.Errorf("Pin: %d", err)
		}
		if l, err := x.Dump(0, 1); l != nil || err != api.ErrPins {
			t.Errorf("Dump: %v, %d", l, err)
		}
	}
}

// 19.10: where a replica does not open, its error is told, and the node stays off, its files as they then are; it starts once they are right.
func TestStartThatIsRefused(t *testing.T) {
	x := led(t, "g", "p")
	if err := x.Crash(0); err != api.OK {
		t.Fatalf("Crash: %d", err)
	}
	run, prefixes := "", map[string]bool{}
	for _, name := range x.disks[0].List("") {
		if strings.HasPrefix(name, "t1.") && strings.Contains(name, "RUN-") {
			run = name
		}
		prefixes[name[:3]] = true
	}
	if run == "" || len(prefixes) != 3 {
		t.Fatalf("%v", x.disks[0].List(""))
	}
	// What opening the tablet 0 sweeps is gone also where the tablet 1 does not open.
	x.disks[0].Create("t0.MANIFEST.TMP")
	x.disks[0].Create("t2.SNAP")
	x.disks[0].Append("t2.SNAP", []byte("tail"))
	x.disks[0].Flip(run, 100)
	names := x.disks[0].List("")
	for i := range 3 {
		if err := x.Start(0, 0); err != api.ErrUnsound {
			t.Fatalf("Start: %d", err)
		}
		if err := x.Tick(0, 0); err != api.ErrNode {
			t.Errorf("Tick: %d", err)
		}
		l, err := x.Files(0)
		if err != api.OK {
			t.Errorf("Files: %d", err)
		}
		var got []string
		for _, f := range l {
			got = append(got, f.Name)
			if f.Synced != len(f.Data) {
				t.Errorf("%s is not synced", f.Name)
			}
		}
		want := slices.DeleteFunc(slices.Clone(names), func(s string) bool { return s == "t0.MANIFEST.TMP" })
		if !slices.Equal(got, want) {
			t.Errorf("time %d: files %v, want %v", i, got, want)
		}
	}
	x.disks[0].Flip(run, 100)
	if err := x.Start(0, 0); err != api.OK {
		t.Fatalf("Start: %d", err)
	}
	if s, err := x.Status(0, 1); err != api.OK || s.Flushed == 0 || s.Flushed != s.Applied {
		t.Errorf("%+v, %d", s, err)
	}
	if slices.Contains(x.disks[0].List(""), "t2.SNAP") {
		t.Error("the tablet 2 was not opened")
	}
}
