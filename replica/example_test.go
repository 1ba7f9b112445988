package replica_test

import (
	"testing"

	"strata/api"
	"strata/order"
	"strata/replica"
)

// The chapter's table of examples, one call behind the other.
func TestExamples(t *testing.T) {
	s := api.Schema{Fams: []api.Family{{Name: "f", Max: 2}}}
	c := config(1, 1)
	c.Raft = api.RaftConfig{ID: 1, Peers: []int{1}, Least: 3, Most: 3, Beat: 1, Batch: 4}
	d := newDisk(t, 1<<20)
	r, err := replica.Open(nil, "a", s, c, 0)
	if r != nil || err != api.ErrArg {
		t.Errorf("Open(nil): %v, %d", r, err)
	}
	bad := c
	bad.Policy = api.Policy{}
	r, err = replica.Open(d, "a", s, bad, 0)
	if r != nil || err != api.ErrTiers {
		t.Errorf("Open with no policy: %v, %d", r, err)
	}
	r, err = replica.Open(d, "a", s, c, 0)
	mustErr(t, "Open", err, api.OK)
	if x := r.Status(); x != (api.Status{ID: 1, Role: 1, First: 1}) {
		t.Errorf("Status: %+v", x)
	}
	noop, opens := encode(t, api.Command{Kind: api.MNoop}), encode(t, api.Command{Kind: api.MOpen})
	index, term, l, err := r.Propose(noop)
	if index != 0 || term != 0 || len(l) > 0 || err != api.ErrNotLeader {
		t.Errorf("Propose: %d, %d, %v, %d", index, term, l, err)
	}
	for range 3 {
		if l := tick(t, r); len(l) > 0 {
			t.Errorf("Tick: %s", text(l))
		}
	}
	if x := r.Status(); x != (api.Status{ID: 1, Term: 1, Leader: 1, Role: 4, First: 1, Last: 1, Commit: 1, Applied: 1}) {
		t.Errorf("Status: %+v", x)
	}
	index, term, l, err = r.Propose(opens)
	if index != 2 || term != 1 || len(l) > 0 || err != api.OK {
		t.Errorf("Propose: %d, %d, %v, %d", index, term, l, err)
	}
	a := r.Answers()
	if len(a) != 1 || a[0].Index != 2 || a[0].Term != 1 {
		t.Fatalf("Answers: %+v", a)
	}
	reply, err := order.DecodeReply(a[0].Reply)
	if err != api.OK || reply.Err != api.OK || reply.Value != 2 {
		t.Errorf("the reply: %+v, %d", reply, err)
	}
	if a := r.Answers(); len(a) > 0 {
		t.Errorf("Answers again: %+v", a)
	}
	mustErr(t, "Flush", r.Flush(), api.OK)
	if x := r.Status(); x.Flushed != 2 || x.First != 3 {
		t.Errorf("Status: %+v", x)
	}
	if done, err := r.Compact(true, 9); done || err != api.OK {
		t.Errorf("Compact: %v, %d", done, err)
	}
	_, err = r.Receive(api.Message{Kind: 4}, 0)
	mustErr(t, "Receive of Kind 4", err, api.ErrArg)
	_, err = r.Receive(api.Message{Kind: api.PGot, From: 2, To: 1}, 0)
	mustErr(t, "Receive of 2", err, api.ErrPeer)
	d.Arm(1)
	_, _, _, err = r.Propose(noop)
	mustErr(t, "Propose", err, api.ErrDown)
	_, err = r.Tick(0)
	mustErr(t, "Tick", err, api.ErrDown)
}
