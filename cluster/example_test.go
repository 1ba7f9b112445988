package cluster_test

import (
	"testing"

	"strata/api"
)

// The chapter's examples, one behind the other.
func TestExamples(t *testing.T) {
	c := config(1, "m")
	c.Schema = api.Schema{Fams: []api.Family{{Name: "f", Max: 2}}}
	x := begin(t, c)
	for row, want := range map[string]int{"a": 0, "m": 1, "": 0} {
		if got := x.Route([]byte(row)); got != want {
			t.Errorf("Route(%q): %d", row, got)
		}
	}
	for i := 0; status(t, x, 0, 0).Role != api.RLeader; i++ {
		if i > 6 {
			t.Fatalf("it does not lead: %+v", status(t, x, 0, 0))
		}
		tick(t, x, 0)
		if len(x.Packets()) > 0 {
			t.Error("a packet is under way")
		}
	}
	if index, _, err := x.Propose(0, 0, put("a", "v")); index != 2 || err != api.OK {
		t.Errorf("Propose: %d, %d", index, err)
	}
	if index, term, err := x.Propose(0, 0, put("z", "v")); index != 0 || term != 0 || err != api.ErrTablet {
		t.Errorf("Propose: %d, %d, %d", index, term, err)
	}
	_, _, err := x.Propose(0, 1, put("z", "v"))
	mustErr(t, "Propose", err, api.OK)
	p, err := x.Scan(nil, 0, api.Query{Time: api.MaxTime, N: 1, Rows: 10})
	if err != api.OK || rowsOf(p) != "a z " || !p.Done {
		t.Errorf("Scan: %s, %d", pageText(p), err)
	}
	mustErr(t, "Crash", x.Crash(0), api.OK)
	mustErr(t, "Tick", x.Tick(0, 0), api.ErrNode)
	mustErr(t, "Start", x.Start(0, 0), api.OK)
	mustErr(t, "Start", x.Start(0, 0), api.ErrNode)
}
