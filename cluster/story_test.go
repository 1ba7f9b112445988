package cluster_test

import (
	"bytes"
	"fmt"
	"math"
	"math/rand"
	"testing"

	"strata/api"
	"strata/cluster"
)

// rowNames are rows on both sides of splits, and the splits themselves.
var rowNames = []string{"a", "b", "c", "d", "e", "f", "g", "h", "i", "j", "k", "l", "m", "n", "o"}

// drawing draws what is handed to a cluster.
type drawing struct {
	*rand.Rand
	nodes   int
	tablets int
	large   int // bytes of a value, at most
}

// node is mostly one that there is.
func (r *drawing) node() int {
	if r.Intn(30) == 0 {
		return []int{-1, r.nodes, r.nodes + 1, math.MinInt, math.MaxInt}[r.Intn(5)]
	}
	return r.Intn(r.nodes)
}

func (r *drawing) tablet() int {
	if r.Intn(30) == 0 {
		return []int{-1, r.tablets, r.tablets + 1, math.MinInt, math.MaxInt}[r.Intn(5)]
	}
	return r.Intn(r.tablets)
}

func (r *drawing) row() []byte { return []byte(rowNames[r.Intn(len(rowNames))]) }

func (r *drawing) op() api.Op {
	op := api.Op{Kind: 1 + r.Intn(5), Fam: r.Intn(2), Qual: []byte{byte('a' + r.Intn(3))}}
	if op.Kind != api.OAdd && r.Intn(2) == 0 {
		op.Ts = 1 + r.Intn(40)
	}
	switch op.Kind {
	case api.OPut:
		op.Value = bytes.Repeat([]byte{byte('A' + r.Intn(20))}, r.Intn(r.large))
	case api.OAdd:
		op.Delta = r.Intn(9) - 2
	case api.OFam:
		op.Qual = nil
	}
	return op
}

// command is mostly one that Encode takes.
func (r *drawing) command() api.Command {
	c := api.Command{Kind: 1 + r.Intn(7)}
	if r.Intn(3) > 0 {
		c.Kind = api.MMutate
	}
	if r.Intn(3) == 0 && c.Kind > api.MOpen || c.Kind == api.MClose {
		c.Client, c.Serial = 1+r.Intn(12), 1+r.Intn(4)
	}
	switch c.Kind {
	case api.MMutate:
		c.Row = r.row()
		for range r.Intn(2) {
			c.Conds = append(c.Conds, api.Cond{Kind: 1 + r.Intn(2), Fam: r.Intn(2), Qual: []byte{byte('a' + r.Intn(3))}})
		}
		for range 1 + r.Intn(3) {
			c.Ops = append(c.Ops, r.op())
		}
	case api.MTick:
		c.N = 1 + r.Intn(9)
	case api.MAdvance:
		c.N = r.Intn(30)
	case api.MRead:
		c.Query = r.query()
		c.Query.Token = nil
	}
	if r.Intn(40) == 0 {
		c.Serial = -1
	}
	return c
}

// query is mostly a question.
func (r *drawing) query() api.Query {
	q := api.Query{N: 1 + r.Intn(3), Rows: 1 + r.Intn(6), Reverse: r.Intn(2) == 0}
	if r.Intn(4) > 0 {
		q.Time = []int{1 + r.Intn(60), api.MaxTime}[r.Intn(2)]
	}
	if r.Intn(3) == 0 {
		q.From = r.row()
	}
	if to := r.row(); r.Intn(3) == 0 && string(to) > string(q.From) {
		q.To = to
	}
	if r.Intn(5) == 0 {
		q.Fams = []int{r.Intn(2)}
	}
	if r.Intn(5) == 0 {
		q.Where = []string{`qual = "a"`, `not fam = g`, `ts >= 10 and value > "F"`}[r.Intn(3)]
	}
	if r.Intn(40) == 0 {
		q.Where = "no such thing"
	}
	if r.Intn(40) == 0 {
		q.N = 0
	}
	return q
}

// story is a cluster and what the chapter says of it, act by act.
type story struct {
	t     *testing.T
	seed  int
	r     *drawing
	x     *cluster.Cluster
	m     *model
	ahead string // what was done
	count map[string]int
}

// same makes a call on both.
func (s *story) same(what string, call func(f face) string) {
	s.t.Helper()
	got, want := call(s.x), call(s.m)
	if got != want {
		s.t.Fatalf("seed %d, %s:\ngot  %s\nwant %s\nbehind %s", s.seed, what, got, want, s.ahead)
	}
	s.ahead = s.ahead[max(0, len(s.ahead)-2000):] + what + "\n"
}

// errs makes a call that tells an error alone.
func (s *story) errs(what string, call func(f face) api.Errno) {
	s.t.Helper()
	s.same(what, func(f face) string {
		err := call(f)
		if f == face(s.x) {
			s.count[fmt.Sprintf("%.4s %d", what, err)]++
		}
		return fmt.Sprint(err)
	})
}

// page asks for pages, one behind another.
func (s *story) pages(what string, q api.Query, ask func(f face, q api.Query) (api.Page, api.Errno)) {
	s.t.Helper()
	for range 1 + s.r.Intn(3) {
		var token []byte
		s.same(what, func(f face) string {
			p, err := ask(f, q)
			token = p.Token
			s.count[fmt.Sprintf("%.4s %d", what, err)]++
			return fmt.Sprintf("%d %s", err, pageText(p))
		})
		if token == nil {
			return
		}
		q.Token = token
	}
}

// packet is mostly one of the oldest.
func (s *story) packet() int {
	n := len(s.m.wire)
	if s.r.Intn(30) == 0 {
		return []int{-1, n, n + 1, math.MinInt, math.MaxInt}[s.r.Intn(5)]
	}
	if n == 0 {
		return 0
	}
	if s.r.Intn(4) == 0 {
		return s.r.Intn(n)
	}
	return s.r.Intn(min(n, 3))
}

func (s *story) draw() int {
	if s.r.Intn(20) == 0 {
		return []int{-3, math.MinInt, math.MaxInt}[s.r.Intn(3)]
	}
	return s.r.Intn(9)
}

// leader is a node that leads the tablet, or any.
func (s *story) leader(tablet int) int {
	node := s.r.node()
	if s.r.Intn(5) == 0 {
		return node
	}
	for i := range s.r.nodes {
		if x, err := s.m.Status(i, tablet); err == api.OK && x.Role == api.RLeader {
			node = i
		}
	}
	return node
}

func (s *story) traffic() {
	s.t.Helper()
	i, draw := s.packet(), s.draw()
	switch k := s.r.Intn(20); {
	case k < 16:
		s.errs(fmt.Sprintf("Deliver(%d, %d)", i, draw), func(f face) api.Errno { return f.Deliver(i, draw) })
	case k < 18:
		s.errs(fmt.Sprintf("Drop(%d)", i), func(f face) api.Errno { return f.Drop(i) })
	default:
		s.errs(fmt.Sprintf("Double(%d)", i), func(f face) api.Errno { return f.Double(i) })
	}
}

func (s *story) work() {
	s.t.Helper()
	node, tablet, c := s.r.node(), s.r.tablet(), s.r.command()
	if c.Kind == api.MMutate && s.r.Intn(8) > 0 {
		tablet = s.m.Route(c.Row)
	}
	switch k := s.r.Intn(20); {
	case k < 9:
		node = s.leader(tablet)
		s.same(fmt.Sprintf("Propose(%d, %d, %+v)", node, tablet, c), func(f face) string {
			i, term, err := f.Propose(node, tablet, c)
			s.count[fmt.Sprintf("Prop %d", err)]++
			return fmt.Sprint(i, term, err)
		})
	case k < 10:
		peer := s.r.node()
		node = s.leader(tablet)
		s.errs(fmt.Sprintf("HandOver(%d, %d, %d)", node, tablet, peer), func(f face) api.Errno { return f.HandOver(node, tablet, peer) })
	case k < 12:
		s.errs(fmt.Sprintf("Flush(%d, %d)", node, tablet), func(f face) api.Errno { return f.Flush(node, tablet) })
	case k < 14:
		major, n := s.r.Intn(2) == 0, s.r.Intn(20)
		s.same(fmt.Sprintf("Compact(%d, %d, %v, %d)", node, tablet, major, n), func(f face) string {
			done, err := f.Compact(node, tablet, major, n)
			s.count[fmt.Sprintf("Comp %v %d", done, err)]++
			return fmt.Sprint(done, err)
		})
	case k < 15:
		s.same(fmt.Sprintf("Answers(%d, %d)", node, tablet), func(f face) string {
			l, err := f.Answers(node, tablet)
			return fmt.Sprint(err, answersText(l))
		})
	case k < 17:
		s.pages(fmt.Sprintf("Query(%d, %d)", node, tablet), s.r.query(), func(f face, q api.Query) (api.Page, api.Errno) { return f.Query(node, tablet, q) })
	case k < 19:
		s.scan(node)
	default:
		s.same(fmt.Sprintf("Status, Log, Dump(%d, %d)", node, tablet), func(f face) string {
			x, err := f.Status(node, tablet)
			log, err2 := f.Log(node, tablet)
			dump, err3 := f.Dump(node, tablet)
			return fmt.Sprint(x, err, logText(log), err2, dumpText(dump), err3)
		})
	}
}

func (s *story) scan(node int) {
	s.t.Helper()
	var done chan struct{}
	if s.r.Intn(3) == 0 {
		done = make(chan struct{})
		if s.r.Intn(3) == 0 {
			close(done)
		}
	}
	s.pages(fmt.Sprintf("Scan(%d)", node), s.r.query(), func(f face, q api.Query) (api.Page, api.Errno) { return f.Scan(done, node, q) })
}

func (s *story) power() {
	s.t.Helper()
	node := s.r.node()
	switch s.r.Intn(3) {
	case 0:
		n := s.r.Intn(25) - 1
		s.errs(fmt.Sprintf("Arm(%d, %d)", node, n), func(f face) api.Errno { return f.Arm(node, n) })
	case 1:
		cuts := []int{s.r.Intn(100) - 9, s.r.Intn(100), s.r.Intn(100), s.r.Intn(9999)}[:s.r.Intn(5)]
		s.errs(fmt.Sprintf("Crash(%d, %v)", node, cuts), func(f face) api.Errno { return f.Crash(node, cuts...) })
	default:
		s.start(node)
	}
}

func (s *story) start(node int) {
	s.t.Helper()
	draw := s.draw()
	s.errs(fmt.Sprintf("Start(%d, %d)", node, draw), func(f face) api.Errno { return f.Start(node, draw) })
}

func (s *story) step() {
	s.t.Helper()
	switch k := s.r.Intn(100); {
	case k < 45:
		s.traffic()
	case k < 60:
		node, draw := s.r.node(), s.draw()
		s.errs(fmt.Sprintf("Tick(%d, %d)", node, draw), func(f face) api.Errno { return f.Tick(node, draw) })
	case k < 97:
		s.work()
	case k < 98:
		s.power()
	default:
		// Who is off, or whose disk is down, does not stay so for long.
		for i := range s.r.nodes {
			if s.m.nodes[i].d.Down() {
				s.errs(fmt.Sprintf("Crash(%d)", i), func(f face) api.Errno { return f.Crash(i) })
			}
			if s.m.nodes[i].l == nil {
				s.start(i)
			}
		}
	}
	s.same("how all are", s.briefly)
	if s.r.Intn(12) == 0 {
		s.same("all that is told", func(f face) string { return wholeText(f, s.r.nodes, s.r.tablets) })
	}
}

// briefly: how all replicas are, how many packets are under way, and the newest of them.
func (s *story) briefly(f face) string {
	l := f.Packets()
	out := fmt.Sprintln(len(l), packetsText(l[max(0, len(l)-2):]))
	for node := range s.r.nodes {
		for tablet := range s.r.tablets {
			x, err := f.Status(node, tablet)
			out += fmt.Sprintln(x, err)
		}
	}
	return out
}

func newStory(t *testing.T, seed int, count map[string]int) *story {
	t.Helper()
	r := rand.New(rand.NewSource(int64(seed)))
	c := config(1+r.Intn(4), [][]string{nil, {"h"}, {"d", "k"}}[r.Intn(3)]...)
	c.Replica.Raft.Beat = 1 + r.Intn(2)
	c.Replica.Raft.Batch = 1 + r.Intn(6)
	large := []int{10, 100, 2000}[r.Intn(3)]
	c.Replica.Tree = api.Options{Block: 64 + r.Intn(400), Bits: r.Intn(12), Mem: 200 + r.Intn(8*large), Stall: 3 + r.Intn(8)}
	c.Replica.Segment = 256 + r.Intn(2000)
	if r.Intn(4) == 0 {
		c.Disk = 2000 + r.Intn(20*large)
	}
	d := &drawing{Rand: r, nodes: c.Nodes, tablets: len(c.Splits) + 1, large: large}
	return &story{t: t, seed: seed, r: d, x: begin(t, c), m: newModel(t, c), count: count}
}

// 19.3 to 19.12: drawn calls, with drawn arguments, that may be and that may not: each answers, and leaves, what the chapter's words told a second time do.
func TestStories(t *testing.T) {
	total := manySeeds(t, 112, func(t *testing.T, seed int, count map[string]int) {
		s := newStory(t, seed, count)
		for range 700 {
			s.step()
		}
	})
	atLeast(t, total, map[string]int{
		"Deli 0": 1000, "Deli 3": 10, "Deli 193": 100, "Drop 0": 300, "Drop 193": 30, "Doub 0": 300, "Doub 193": 30,
		"Tick 0": 1000, "Tick 3": 10, "Tick 191": 30, "Prop 0": 1000, "Prop 3": 5, "Prop 162": 100, "Prop 191": 10, "Prop 192": 30, "Prop 143": 10,
		"Hand 0": 10, "Hand 191": 10, "Hand 192": 1, "Hand 162": 10, "Hand 161": 10,
		"Flus 0": 100, "Flus 191": 10, "Flus 192": 10, "Comp true 0": 30, "Comp false 191": 10, "Comp false 192": 5,
		"Quer 0": 1000, "Quer 191": 10, "Quer 192": 10, "Quer 130": 10, "Quer 131": 10,
		"Scan 0": 1000, "Scan 3": 3, "Scan 32": 30, "Scan 91": 30, "Scan 130": 10, "Scan 131": 10, "Scan 191": 10,
		"Arm( 0": 30, "Arm( 191": 3, "Cras 0": 30, "Cras 191": 3, "Star 0": 30, "Star 191": 30,
	})
}
