package replica_test

import (
	"slices"
	"testing"

	"strata/api"
	"strata/disk"
	"strata/replica"
)

// group is replicas over disks of their own, and what is under way between them.
type group struct {
	t      *testing.T
	n      int
	config func(c *api.ReplicaConfig) // nil: as it is
	room   int
	disks  []*disk.Disk
	all    []*replica.Replica
	wire   []api.Message
}

func newGroup(t *testing.T, n int) *group {
	t.Helper()
	g := &group{t: t, n: n, room: 1 << 22}
	g.begin()
	return g
}

// begin opens all of them over new disks.
func (g *group) begin() {
	g.t.Helper()
	g.disks, g.all, g.wire = nil, nil, nil
	for i := range g.n {
		g.disks = append(g.disks, newDisk(g.t, g.room))
		g.all = append(g.all, nil)
		g.open(i + 1)
	}
}

func (g *group) conf(id int) api.ReplicaConfig {
	c := config(id, g.n)
	if g.config != nil {
		g.config(&c)
	}
	return c
}

func (g *group) open(id int) {
	g.t.Helper()
	r, err := replica.Open(g.disks[id-1], "a", schema, g.conf(id), 3)
	if err != api.OK {
		g.t.Fatalf("Open of %d: %d", id, err)
	}
	g.all[id-1] = r
}

func (g *group) of(id int) *replica.Replica { return g.all[id-1] }

// settle delivers all that is under way, and what is answered to it, between these (none: all); what is for others is lost.
func (g *group) settle(among ...int) {
	g.t.Helper()
	for i := 0; len(g.wire) > 0; i++ {
		if i > 10000 {
			g.t.Fatal("they talk for ever")
		}
		m := g.wire[0]
		g.wire = g.wire[1:]
		if len(among) > 0 && (!slices.Contains(among, m.From) || !slices.Contains(among, m.To)) {
			continue
		}
		g.wire = append(g.wire, receive(g.t, g.of(m.To), m)...)
	}
}

// with is the peers that a call is settled among: this one and the others named; all, if none is.
func with(id int, others []int) []int {
	if len(others) == 0 {
		return nil
	}
	return append([]int{id}, others...)
}

// lead ticks one till it leads, among these.
func (g *group) lead(id int, others ...int) {
	g.t.Helper()
	for range 20 {
		if g.of(id).Status().Role == api.RLeader {
			return
		}
		g.tick(id, others...)
	}
	g.t.Fatalf("%d does not lead: %+v", id, g.of(id).Status())
}

func (g *group) tick(id int, others ...int) {
	g.t.Helper()
	g.wire = append(g.wire, tick(g.t, g.of(id))...)
	g.settle(with(id, others)...)
}

func (g *group) propose(id int, command []byte, others ...int) (int, int) {
	g.t.Helper()
	index, term, l, err := g.of(id).Propose(command)
	mustErr(g.t, "Propose", err, api.OK)
	g.wire = append(g.wire, l...)
	g.settle(with(id, others)...)
	return index, term
}
