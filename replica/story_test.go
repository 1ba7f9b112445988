package replica_test

import (
	"bytes"
	"fmt"
	"maps"
	"math/rand"
	"slices"
	"testing"

	"strata/api"
	"strata/disk"
	"strata/order"
	"strata/replica"
	"strata/tree"
)

// pair is a replica and the model of it, each over a disk of its own to which the same happens. Both are nil while it is off.
type pair struct {
	*story
	id    int
	d, md *disk.Disk
	r     *replica.Replica
	m     *model
	views []*tree.View
}

// story is peers, what is under way between them, and chance.
type story struct {
	t      *testing.T
	seed   int
	chance *rand.Rand
	c      api.ReplicaConfig
	large  int // bytes of a value, at most
	room   int
	pairs  []*pair
	wire   []api.Message
	past   []api.Message // some of raft's that were under way once
	parts  []api.Message // and some of snapshots
	away   int           // this one is cut off
	count  map[string]int
}

func newStory(t *testing.T, seed int, count map[string]int) *story {
	t.Helper()
	r := rand.New(rand.NewSource(int64(seed)))
	n := []int{1, 2, 3, 3, 3, 4}[r.Intn(6)]
	s := &story{t: t, seed: seed, chance: r, count: count, c: config(1, n), large: []int{20, 300, 4000}[r.Intn(3)]}
	s.c.Raft.Least = 3 + r.Intn(3)
	s.c.Raft.Most = s.c.Raft.Least + r.Intn(8)
	s.c.Raft.Beat, s.c.Raft.Batch = 1+r.Intn(2), 1+r.Intn(4)
	s.c.Tree = api.Options{Block: 64 + r.Intn(600), Bits: r.Intn(12), Mem: 1 + r.Intn(1+4*s.large), Stall: 3 + r.Intn(8)}
	s.c.Policy = api.Policy{Width: 2 + r.Intn(2), Ratio: 2 + r.Intn(4), Most: 4 + r.Intn(4)}
	s.c.Segment = 256 + r.Intn(2000)
	s.room = 1 << 20
	if r.Intn(3) == 0 {
		s.room = 2000 + r.Intn(30*s.large+3000)
	} else if r.Intn(4) == 0 {
		s.room = 100000 + r.Intn(200000)
	}
	for i := range n {
		p := &pair{story: s, id: i + 1}
		p.d, p.md = newDisk(t, s.room), newDisk(t, s.room)
		if r.Intn(6) == 0 {
			for k := range 240 + r.Intn(14) {
				p.d.Create(fmt.Sprint("other", k))
				p.md.Create(fmt.Sprint("other", k))
			}
		}
		s.pairs = append(s.pairs, p)
		p.open()
	}
	return s
}

func (p *pair) fail(what string, got, want any) {
	p.t.Helper()
	p.t.Fatalf("seed %d, peer %d: %s: got\n%.3000v\nwant\n%.3000v\nof %s", p.seed, p.id, what, got, want, told(p.d))
}

func (p *pair) open() bool {
	p.t.Helper()
	c, draw := p.c, p.chance.Intn(20)
	c.Raft.ID = p.id
	r, err := replica.Open(p.d, "a", schema, c, draw)
	m, want := openModel(p.md, "a", schema, c, draw)
	if err != want || (r == nil) != (err != api.OK) {
		p.fail("Open", err, want)
	}
	p.count[fmt.Sprintf("Open %d", err)]++
	if m != nil {
		for what, n := range m.seen {
			p.count[what] += n
		}
		m.seen = p.count
	}
	p.r, p.m, p.views = r, m, nil
	if !sameFiles(p.d.Files(), p.md.Files()) {
		p.fail("the files behind Open", told(p.d), told(p.md))
	}
	if r != nil {
		p.same("Open")
	}
	return r != nil
}

// same holds all that is told against the model.
func (p *pair) same(what string) {
	p.t.Helper()
	if got, want := p.m.statusText(p.r.Status()), p.m.status(); got != want {
		p.fail(what+": Status", got, want)
	}
	if p.d.Counts() != p.md.Counts() || p.d.Down() != p.md.Down() {
		p.fail(what+": acts", p.d.Counts(), p.md.Counts())
	}
	if p.r.Tree().Pins() != p.m.t.Pins() {
		p.fail(what+": views", p.r.Tree().Pins(), p.m.t.Pins())
	}
	if p.chance.Intn(8) > 0 && !p.d.Down() {
		return
	}
	if !sameFiles(p.d.Files(), p.md.Files()) {
		p.fail(what+": files", told(p.d), told(p.md))
	}
	if got, want := entriesText(p.r.Log()), entriesText(p.m.n.State().Log); got != want && !p.m.free {
		p.fail(what+": Log", got, want)
	}
	if got, want := fmt.Sprintf("%x", p.r.Machine().State()), fmt.Sprintf("%x", p.m.m.State()); got != want {
		p.fail(what+": State", got, want)
	}
}

func (p *pair) answered(what string, l, want []api.Message, err, wantErr api.Errno) {
	p.t.Helper()
	if err != wantErr || text(l) != text(want) {
		p.fail(what, fmt.Sprintf("%d\n%s", err, text(l)), fmt.Sprintf("%d\n%s", wantErr, text(want)))
	}
	p.count[fmt.Sprintf("%s %d", what, err)]++
	p.same(what)
	p.send(l)
}

func (s *story) send(l []api.Message) {
	for _, m := range l {
		s.wire = append(s.wire, m)
		s.count[fmt.Sprintf("said %d", m.Kind)]++
		if m.Kind != api.PRaft {
			s.parts = append(s.parts, m)
		} else if s.chance.Intn(10) == 0 {
			s.past = append(s.past, m)
		}
	}
	s.wire = s.wire[max(0, len(s.wire)-120):]
	s.past, s.parts = s.past[max(0, len(s.past)-30):], s.parts[max(0, len(s.parts)-30):]
}

// drawCommand: any of a client's.
func (s *story) drawCommand() []byte {
	r := s.chance
	c := api.Command{Kind: 1 + r.Intn(7)}
	if r.Intn(3) > 0 {
		c.Kind = api.MMutate
	}
	if r.Intn(3) == 0 && c.Kind > api.MOpen || c.Kind == api.MClose {
		c.Client, c.Serial = 1+r.Intn(12), 1+r.Intn(4)
	}
	switch c.Kind {
	case api.MMutate:
		c.Row = fmt.Append(nil, "row", r.Intn(12))
		for range r.Intn(2) {
			c.Conds = append(c.Conds, api.Cond{Kind: 1 + r.Intn(2), Fam: r.Intn(2), Qual: []byte{byte('a' + r.Intn(3))}})
		}
		for range 1 + r.Intn(3) {
			op := api.Op{Kind: 1 + r.Intn(5), Fam: r.Intn(2), Qual: []byte{byte('a' + r.Intn(3))}}
			switch op.Kind {
			case api.OPut:
				op.Value = bytes.Repeat([]byte{byte('A' + r.Intn(20))}, r.Intn(s.large))
			case api.OAdd:
				op.Delta = r.Intn(9) - 2
			case api.OFam:
				op.Qual = nil
			}
			c.Ops = append(c.Ops, op)
		}
	case api.MTick:
		c.N = 1 + r.Intn(9)
	case api.MAdvance:
		c.N = r.Intn(30)
	case api.MRead:
		c.Query = api.Query{N: 1, Rows: 1 + r.Intn(5)}
	}
	b, err := order.Encode(schema, c)
	if err != api.OK {
		s.t.Fatalf("seed %d: %+v: %d", s.seed, c, err)
	}
	if r.Intn(30) == 0 {
		return b[:r.Intn(len(b))]
	}
	return b
}

// spoil changes something of a message.
func (s *story) spoil(m api.Message) api.Message {
	r := s.chance
	number := func(n int) int {
		return []int{n + 1, n - 1, 0, -1, r.Intn(30), 1 << 40, 1<<40 + 1, 1 << 26, n}[r.Intn(9)]
	}
	m.Data = bytes.Clone(m.Data)
	switch r.Intn(13) {
	case 0:
		m.Kind = r.Intn(6) - 1
	case 1:
		m.From = r.Intn(6)
	case 2:
		m.To = r.Intn(6)
	case 3, 4:
		m.Index = number(m.Index)
	case 5:
		m.Term = number(m.Term)
	case 6, 7:
		m.At = number(m.At)
	case 8:
		m.Total = number(m.Total)
	case 9:
		if len(m.Data) > 0 {
			m.Data[r.Intn(len(m.Data))] ^= 1 << r.Intn(8)
		}
	case 10:
		if len(m.Data) > 0 {
			m.Data = m.Data[:r.Intn(len(m.Data))]
		}
	case 11:
		m.Raft.Kind = number(m.Raft.Kind)
	case 12:
		m.Raft.Term = number(m.Raft.Term)
	}
	return m
}

func (s *story) deliver(m api.Message) {
	s.t.Helper()
	if m.To < 1 || m.To > len(s.pairs) {
		m.To = 1 + s.chance.Intn(len(s.pairs))
	}
	p := s.pairs[m.To-1]
	if p.r == nil || s.away != 0 && (m.To == s.away || m.From == s.away) {
		return
	}
	s.hand(p, m)
}

// hand hands a message in at a peer, whoever it is for.
func (s *story) hand(p *pair, m api.Message) {
	s.t.Helper()
	// Often the power fails while a snapshot is being installed.
	if m.Kind == api.PChunk && m.At+len(m.Data) == m.Total && s.chance.Intn(4) == 0 {
		n := 1 + s.chance.Intn(25)
		p.d.Arm(n)
		p.md.Arm(n)
	}
	draw := p.draw()
	l, err := p.r.Receive(m, draw)
	want, wantErr := p.m.receive(m, draw)
	p.answered(fmt.Sprintf("Receive of %d", min(max(m.Kind, 0), 4)), l, want, err, wantErr)
}

// pick takes a message that is under way out; the oldest one as a rule.
func (s *story) pick() (api.Message, bool) {
	if len(s.wire) == 0 {
		return api.Message{}, false
	}
	i := 0
	if s.chance.Intn(4) == 0 {
		i = s.chance.Intn(len(s.wire))
	}
	m := s.wire[i]
	s.wire = slices.Delete(s.wire, i, i+1)
	return m, true
}

func (s *story) step() {
	s.t.Helper()
	p := s.pairs[s.chance.Intn(len(s.pairs))]
	if p.r == nil {
		p.mend()
		return
	}
	switch k := s.chance.Intn(200); {
	case k < 100:
		for range 1 + s.chance.Intn(14) {
			if m, is := s.pick(); is {
				s.deliver(m)
			}
		}
	case k < 124:
		draw := p.draw()
		l, err := p.r.Tick(draw)
		want, wantErr := p.m.tick(draw)
		p.answered("Tick", l, want, err, wantErr)
	case k < 156:
		p.propose()
	case k < 162:
		want := p.m.flushed()
		p.answered("Flush", nil, nil, p.r.Flush(), want)
	case k < 172:
		major, n := s.chance.Intn(3) == 0, s.chance.Intn(9)-1
		done, err := p.r.Compact(major, n)
		want, wantErr := p.m.compact(major, n)
		if done != want {
			p.fail("Compact", done, want)
		}
		p.answered(fmt.Sprintf("Compact %v", done), nil, nil, err, wantErr)
	case k < 174:
		peer := s.chance.Intn(6) - 1
		l, err := p.r.HandOver(peer)
		want, wantErr := p.m.handOver(peer)
		p.answered("HandOver", l, want, err, wantErr)
	case k < 180:
		if m, is := s.pick(); is {
			s.send([]api.Message{m, m})
		}
	case k < 184:
		s.pick()
	case k < 188:
		s.again(p)
	case k < 190:
		s.turn()
	case k < 192:
		p.other()
	case k < 194:
		p.look()
	case k < 195:
		if len(p.views) > 0 || s.chance.Intn(5) == 0 {
			p.hold()
		}
	case k < 197:
		n := s.chance.Intn(14)
		p.d.Arm(n)
		p.md.Arm(n)
	case k < 198:
		p.crash()
	}
	if p.d.Down() && s.chance.Intn(3) > 0 || p.r != nil && p.m.halted && s.chance.Intn(3) == 0 {
		p.crash()
	}
}

// again hands in something that was said earlier, spoilt or not.
func (s *story) again(p *pair) {
	s.t.Helper()
	l := s.past
	if s.chance.Intn(3) > 0 {
		l = s.parts
	}
	if len(l) == 0 {
		return
	}
	m := l[s.chance.Intn(len(l))]
	if s.chance.Intn(3) > 0 {
		m = s.spoil(m)
	}
	if m.To > 0 && m.To <= len(s.pairs) && s.chance.Intn(4) > 0 {
		p = s.pairs[m.To-1]
	}
	if p.r != nil {
		s.hand(p, m)
	}
}

// prologue: one of them lacks from the beginning on what is much, and cut off.
func (s *story) prologue() {
	s.t.Helper()
	s.away = 1 + s.chance.Intn(len(s.pairs))
	for i := range 300 {
		for _, p := range s.pairs {
			if p.r == nil || p.id == s.away {
				continue
			}
			switch leads := p.r.Status().Role == api.RLeader; {
			case leads && i%4 == 0:
				p.proposeHere(puts(s.t, fmt.Sprint("row", i%13), 1+s.chance.Intn(3), byte(i)))
			case i%40 == 39:
				want := p.m.flushed()
				p.answered("Flush", nil, nil, p.r.Flush(), want)
			default:
				draw := p.draw()
				l, err := p.r.Tick(draw)
				want, wantErr := p.m.tick(draw)
				p.answered("Tick", l, want, err, wantErr)
			}
			for range 8 {
				if m, is := s.pick(); is {
					s.deliver(m)
				}
			}
		}
	}
	s.away = 0
}

// draw: of some the timeouts are short as a rule, so that one leads for a while.
func (p *pair) draw() int {
	if p.chance.Intn(4) > 0 {
		return (p.id + p.seed) % len(p.pairs)
	}
	return p.chance.Intn(20)
}

// turn cuts another one off, a leader as a rule, or none.
func (s *story) turn() {
	s.away = s.chance.Intn(len(s.pairs) + 1)
	if s.chance.Intn(2) == 0 {
		for _, p := range s.pairs {
			if p.r != nil && p.r.Status().Role == api.RLeader {
				s.away = p.id
			}
		}
	}
}

func (p *pair) propose() {
	p.t.Helper()
	if p.r.Status().Role != api.RLeader && p.chance.Intn(3) > 0 {
		for _, q := range p.pairs {
			if q.r != nil && q.r.Status().Role == api.RLeader {
				p = q
			}
		}
	}
	p.proposeHere(p.drawCommand())
}

func (p *pair) proposeHere(c []byte) {
	p.t.Helper()
	index, term, l, err := p.r.Propose(c)
	i, t, want, wantErr := p.m.propose(c)
	if index != i || term != t {
		p.fail("Propose", [2]int{index, term}, [2]int{i, t})
	}
	p.answered("Propose", l, want, err, wantErr)
}

// other: somebody else's files come and go.
func (p *pair) other() {
	name, size := fmt.Sprint("other", p.chance.Intn(300)), p.chance.Intn(p.room/3)
	for _, d := range []*disk.Disk{p.d, p.md} {
		if has(d, name) {
			d.Delete(name)
		} else if d.Create(name) == api.OK {
			d.Append(name, make([]byte, size))
		}
	}
}

// look asks for answers and rows.
func (p *pair) look() {
	p.t.Helper()
	a, want := p.r.Answers(), p.m.answers
	p.m.answers = nil
	if fmt.Sprintf("%+v", a) != fmt.Sprintf("%+v", want) {
		p.fail("Answers", a, want)
	}
	q := api.Query{N: p.chance.Intn(4), Rows: 1 + p.chance.Intn(9), Reverse: p.chance.Intn(2) == 0}
	page, err := p.r.Query(q)
	wanted, wantErr := p.m.m.Query(q)
	p.m.down = p.m.down || wantErr == api.ErrDown
	if err != wantErr || fmt.Sprint(page) != fmt.Sprint(wanted) {
		p.fail("Query", page, wanted)
	}
}

// hold: somebody holds all views, or lets them go.
func (p *pair) hold() {
	for _, v := range p.views {
		v.Release()
	}
	if p.views != nil {
		p.views = nil
		return
	}
	for _, t := range []*tree.Tree{p.r.Tree(), p.m.t} {
		for {
			v, err := t.Pin()
			if err != api.OK {
				break
			}
			p.views = append(p.views, v)
		}
	}
}

func (p *pair) crash() {
	p.t.Helper()
	cuts := []int{p.chance.Intn(300) - 20, p.chance.Intn(2000) - 20, p.chance.Intn(200)}
	if p.chance.Intn(3) == 0 {
		cuts = slices.Repeat([]int{1 << 20}, 5)
	}
	p.d.Crash(cuts...)
	p.md.Crash(cuts...)
	if p.chance.Intn(3) == 0 {
		n := 1 + p.chance.Intn(4)
		p.d.Arm(n)
		p.md.Arm(n)
	}
	if !p.open() {
		p.d.Crash(cuts...)
		p.md.Crash(cuts...)
		p.open()
	}
	p.d.Arm(0)
	p.md.Arm(0)
}

// mend gives one that does not open more room, and if that does not help a new disk.
func (p *pair) mend() {
	p.t.Helper()
	p.d, p.md = copied(p.t, p.d, api.MaxDisk), copied(p.t, p.md, api.MaxDisk)
	for _, name := range p.d.List("other") {
		p.d.Delete(name)
		p.md.Delete(name)
	}
	if !p.open() {
		p.d, p.md = newDisk(p.t, p.room), newDisk(p.t, p.room)
		p.open()
	}
}

// 18.1 to 18.13, 18.16: drawn calls and messages, doubled, lost, spoilt, rooms, files of others, views that others hold, and power that fails: a replica answers, tells and writes, act by act, what the chapter's words told a second time do.
func TestStories(t *testing.T) {
	total := manySeeds(t, 640, func(t *testing.T, seed int, count map[string]int) {
		s := newStory(t, seed, count)
		if len(s.pairs) > 2 && s.room > 90000 && seed/16%4 == 0 {
			s.prologue()
		}
		for range 600 {
			s.step()
		}
	})
	for _, k := range []string{
		"Open 0", "Open 3", "Tick 0", "Tick 3", "Tick 180", "Receive of 1 0", "Receive of 1 3", "Receive of 1 161", "Receive of 1 180", "Receive of 2 0", "Receive of 2 3", "Receive of 2 183", "Receive of 2 184",
		"Receive of 3 0", "Receive of 3 184", "Receive of 4 1", "Propose 0", "Propose 3", "Propose 162", "Propose 164", "Propose 180", "Propose 182",
		"Flush 0", "Flush 3", "Flush 4", "Flush 44", "Compact true 0", "Compact false 0", "Compact false 116", "Compact false 4", "HandOver 0", "HandOver 161", "HandOver 162",
		"said 1", "said 2", "said 3", "an installing ended by Open", "a file of no use", "halted by 4", "halted by 44", "halted by 116",
		"a snapshot in the place of another", "an answer, its own true", "an answer, its own false", "sent no more", "a tick's flush 0", "a tick's flush 4", "all was sent",
		"18.7, 1", "18.7, 2", "18.7, 3", "18.7, 4, not its beginning", "18.7, 4, in the place of another true", "18.7, 4, in the place of another false", "18.7, 5, another place", "no room for a chunk",
		"no snapshot", "no room to install", "a job aborted", "installed, entries stay false", "a proposal passed over", "a trim let go 4", "a proposal in the place of another",
	} {
		if total[k] < 2 {
			t.Errorf("%s came %d times", k, total[k])
		}
	}
}

// manySeeds does something for many seeds, side by side: what was counted in all.
func manySeeds(t *testing.T, seeds int, do func(t *testing.T, seed int, count map[string]int)) map[string]int {
	t.Helper()
	const parts = 16
	counts := make([]map[string]int, parts)
	t.Run("seeds", func(t *testing.T) {
		for i := range parts {
			counts[i] = map[string]int{}
			t.Run(fmt.Sprint(i), func(t *testing.T) {
				t.Parallel()
				for seed := i; seed < seeds; seed += parts {
					do(t, seed, counts[i])
				}
			})
		}
	})
	total := map[string]int{}
	for _, c := range counts {
		for k, n := range c {
			total[k] += n
		}
	}
	for _, k := range slices.Sorted(maps.Keys(total)) {
		t.Log(k, total[k])
	}
	return total
}
