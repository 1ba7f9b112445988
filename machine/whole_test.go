package machine_test

import (
	"bytes"
	"fmt"
	"math/rand"
	"slices"
	"strconv"
	"testing"

	"strata/api"
	"strata/disk"
	"strata/machine"
	"strata/order"
	"strata/retain"
	"strata/squash"
	"strata/tree"
)

// drawCommand is a command's bytes that may well come to a machine that stands where the model does; some are none.
func drawCommand(r *rand.Rand, m *model) []byte {
	if m.crowded && r.Intn(4) == 0 {
		return encodeFor(m, openSession)
	}
	var c api.Command
	switch n := r.Intn(40); {
	case n < 1:
		return [][]byte{nil, {0}, {4, 0, 0}, {99}}[r.Intn(4)]
	case n < 2:
		return encodeFor(m, noop)
	case n < 5:
		return encodeFor(m, openSession)
	case n < 9:
		c = tick([]int{1, 1, 1, 2, 3, 5, 20, 63, 64, api.MaxTime}[r.Intn(10)])
	case n < 12:
		c = advance(max(0, []int{m.low - 1, m.low, m.low + 1, m.clock - 2, m.clock - 1, m.clock}[r.Intn(6)]))
	case n < 15:
		c = read(drawQuestion(r, m.s))
	case n < 16 && len(m.sessions) > 0:
		c = closeSession
	default:
		c = drawMutation(r, m)
	}
	if len(m.sessions) > 0 && (c.Kind == api.MClose || r.Intn(2) == 0) {
		x := m.sessions[r.Intn(len(m.sessions))]
		c = in(x.Client+r.Intn(20)/19, max(1, x.Serial+[]int{1, 1, 1, 1, 0, 0, 2, -1}[r.Intn(8)]), c)
	}
	return encodeFor(m, c)
}

func encodeFor(m *model, c api.Command) []byte {
	b, err := order.Encode(m.s, c)
	if err != api.OK {
		panic(fmt.Sprintf("%+v: %d", c, err))
	}
	return b
}

// drawMutation is of few columns, so that they meet; many values are numbers.
func drawMutation(r *rand.Rand, m *model) api.Command {
	c := mutate(string("abcdr"[r.Intn(5)]))
	qual := func() []byte { return []byte{"npq"[r.Intn(3)]} }
	val := func() []byte {
		return []byte([]string{"", "5", rising(r.Intn(4)), rising(r.Intn(4)), rising(r.Intn(1000))}[r.Intn(5)])
	}
	for range r.Intn(3) * r.Intn(2) {
		x := api.Cond{Kind: 1 + r.Intn(6), Fam: r.Intn(len(m.s.Fams)), Qual: qual()}
		if x.Kind >= api.CSame {
			x.Value = val()
		}
		c.Conds = append(c.Conds, x)
	}
	for range 1 + r.Intn(4) {
		op := api.Op{Kind: []int{1, 1, 1, 1, 1, 1, 2, 2, 3, 4, 5, 5, 5, 5, 5}[r.Intn(15)], Fam: r.Intn(len(m.s.Fams)), Qual: qual()}
		if op.Kind != api.OAdd && r.Intn(3) > 0 {
			op.Ts = max(1, m.low+[]int{0, 1, 1, 2, 3, m.clock - m.low, m.clock - m.low + 1, m.clock - m.low + 5}[r.Intn(8)])
		}
		switch op.Kind {
		case api.OPut:
			op.Value = val()
		case api.OFam:
			op.Qual = nil
		case api.OAdd:
			op.Delta = r.Intn(9) - 2
		}
		c.Ops = append(c.Ops, op)
	}
	return c
}

// history is one log, with the replies to it and what a machine is behind each index.
type history struct {
	log     [][]byte
	replies [][]byte
	behind  []*model // behind[i]: when i commands were applied
}

func drawHistory(r *rand.Rand, s api.Schema, n int) *history {
	m := newModel(s)
	m.crowded = r.Intn(2) == 0
	h := &history{behind: []*model{m.copy()}}
	for range n {
		c := drawCommand(r, m)
		h.log = append(h.log, c)
		h.replies = append(h.replies, bytes.Clone(m.apply(c)))
		h.behind = append(h.behind, m.copy())
	}
	return h
}

// node is a machine of its own that goes through a history.
type node struct {
	t *testing.T
	r *rand.Rand
	h *history
	d *disk.Disk
	o api.Options
	x *tree.Tree
	m *machine.Machine
	j *squash.Job
	n map[string]int
}

func newNode(t *testing.T, r *rand.Rand, h *history, n map[string]int) *node {
	t.Helper()
	d, err := disk.New(1 << 24)
	mustErr(t, "disk.New", err, api.OK)
	x := &node{t: t, r: r, h: h, d: d, n: n, o: api.Options{Block: 64 << r.Intn(4), Bits: r.Intn(12), Mem: 1000, Stall: 60}}
	x.open()
	return x
}

func (x *node) open() {
	x.t.Helper()
	var err api.Errno
	x.x, err = tree.Open(x.d, "x", x.h.behind[0].s, x.o)
	mustErr(x.t, "tree.Open", err, api.OK)
	x.m, err = machine.Open(x.x)
	mustErr(x.t, "Open", err, api.OK)
	x.j = nil
}

// apply does the next command of the history, if there is one.
func (x *node) apply() {
	x.t.Helper()
	index := x.x.Applied() + 1
	if index > len(x.h.log) {
		return
	}
	reply, err := x.m.Apply(index, x.h.log[index-1])
	mustErr(x.t, "Apply", err, api.OK)
	if !bytes.Equal(reply, x.h.replies[index-1]) {
		c, _ := order.Decode(x.h.behind[0].s, x.h.log[index-1])
		x.t.Fatalf("index %d, %+v: %+v, want %+v", index, c, decode(x.t, reply), decode(x.t, x.h.replies[index-1]))
	}
	got := decode(x.t, reply)
	x.n["err "+strconv.Itoa(int(got.Err))]++
	if got.Held {
		x.n["held"]++
	}
}

func (x *node) flush() {
	mustErr(x.t, "Flush", x.m.Flush(), api.OK)
	x.n["flush"]++
}

// squash begins a job, goes on with one, or ends it.
func (x *node) squash() {
	if x.j == nil {
		var picks []int
		for _, run := range x.x.Runs() {
			if x.r.Intn(4) > 0 {
				picks = append(picks, run.Num)
			}
		}
		if len(picks) > 0 {
			major := len(picks) == len(x.x.Runs()) && x.r.Intn(4) > 0
			var err api.Errno
			x.j, err = squash.Start(x.x, picks, major)
			mustErr(x.t, "Start", err, api.OK)
		}
		return
	}
	if x.r.Intn(2) == 0 {
		_, err := x.j.Step(x.r.Intn(20))
		mustErr(x.t, "Step", err, api.OK)
		return
	}
	did, err := x.j.Finish()
	mustErr(x.t, "Finish", err, api.OK)
	if did.Major {
		x.n["major"]++
	}
	x.n["squash"]++
	x.j = nil
}

// fail lets power fail, now or within a flush, and opens what is left.
func (x *node) fail() {
	if x.r.Intn(2) == 0 {
		x.d.Arm(1 + x.r.Intn(6))
		x.m.Flush()
	}
	x.d.Crash()
	x.open()
	x.n["fail"]++
}

// look holds what is told against the history.
func (x *node) look() {
	x.t.Helper()
	want := x.h.behind[x.x.Applied()]
	b := &bench{TB: x.t, x: x.x, m: x.m}
	if got := b.picture(); !samePicture(got, want.picture()) {
		x.t.Fatalf("index %d: %+v, want %+v", want.applied, got, want.picture())
	}
	q := drawQuestion(x.r, want.s)
	for {
		got, err := x.m.Query(q)
		page, wantErr := want.query(q)
		if !same(got, page) || err != wantErr {
			x.t.Fatalf("index %d: %+v: %+v, %d, want %+v, %d", want.applied, q, got, err, page, wantErr)
		}
		x.n["rows"] += len(got.Rows)
		if got.Done {
			return
		}
		q.Token = got.Token
	}
}

// 15.8: one history: of machines that are given the same commands, however each is flushed, squashed and opened anew, replies, Stat, State, Digest and every Query are the same, and those that the commands alone make.
func TestOneHistory(t *testing.T) {
	r := rand.New(rand.NewSource(158))
	n := map[string]int{}
	for range 60 {
		h := drawHistory(r, drawSchema(r), 150)
		nodes := []*node{newNode(t, r, h, n), newNode(t, r, h, n), newNode(t, r, h, n)}
		for range 700 {
			x := nodes[r.Intn(3)]
			switch k := r.Intn(40); {
			case k < 30:
				x.apply()
			case k < 32:
				x.flush()
			case k < 37:
				x.squash()
			case k < 38:
				x.fail()
			default:
				x.look()
			}
		}
		for _, x := range nodes {
			for x.x.Applied() < len(h.log) {
				x.apply()
			}
			x.look()
			if x.j != nil {
				x.j.Abort()
			}
			if x.x.Pins() != 0 {
				t.Fatalf("%d views are held", x.x.Pins())
			}
		}
	}
	for _, what := range []string{"held", "flush", "squash", "major", "fail", "rows", "err 0", "err 140", "err 152", "err 153", "err 154", "err 155", "err 156", "err 157", "err 158"} {
		if n[what] < 50 {
			t.Errorf("%s: only %d times, of %v", what, n[what], n)
		}
	}
}

// drawSchema has few families, of which each keeps little.
func drawSchema(r *rand.Rand) api.Schema {
	s := api.Schema{Fams: []api.Family{{Name: "f", Max: 1 + r.Intn(3), TTL: r.Intn(2) * (3 + r.Intn(30))}}}
	if r.Intn(2) == 0 {
		s.Fams = append(s.Fams, api.Family{Name: "g", Max: 1 + r.Intn(3), TTL: r.Intn(2) * (3 + r.Intn(30))})
	}
	return s
}

// 15.8: a machine that is opened over another one's image goes on as that one.
func TestImages(t *testing.T) {
	r := rand.New(rand.NewSource(1580))
	n := map[string]int{}
	for range 20 {
		h := drawHistory(r, drawSchema(r), 80)
		a, b := newNode(t, r, h, n), newNode(t, r, h, n)
		for range 20 + r.Intn(40) {
			a.apply()
			if r.Intn(9) == 0 {
				a.flush()
			}
		}
		a.flush()
		image, err := a.x.Image()
		mustErr(t, "Image", err, api.OK)
		mustErr(t, "Install", b.x.Install(image), api.OK)
		b.m, err = machine.Open(b.x)
		mustErr(t, "Open", err, api.OK)
		for a.x.Applied() < len(h.log) {
			a.look()
			b.look()
			a.apply()
			b.apply()
		}
	}
}

// 15.10: of a history, every mutation that is refused, or not held, leaves all as it was; what is read too.
func TestWhatChangesNothing(t *testing.T) {
	r := rand.New(rand.NewSource(1510))
	refusals, unheld, reads := 0, 0, 0
	for range 40 {
		h := drawHistory(r, two, 120)
		x := newNode(t, r, h, map[string]int{})
		b := &bench{TB: t, x: x.x, m: x.m}
		for i, c := range h.log {
			was, count := b.picture(), len(b.entries())
			x.apply()
			got := b.picture()
			reply := decode(t, h.replies[i])
			c, err := order.Decode(two, c)
			switch {
			case err != api.OK, reply.Err != api.OK:
				refusals++
			case c.Kind == api.MRead:
				reads++
			case c.Kind == api.MMutate && !reply.Held:
				unheld++
			default:
				continue
			}
			if got.digest != was.digest || !same(got.page, was.page) || len(b.entries()) != count || got.stat.Clock != was.stat.Clock || got.stat.Low != was.stat.Low {
				t.Fatalf("index %d: %+v, want %+v", i+1, got, was)
			}
		}
	}
	if refusals < 300 || unheld < 100 || reads < 100 {
		t.Errorf("%d, %d, %d", refusals, unheld, reads)
	}
}

// 15.11: low and the clock never fall, low stays below the clock, and all that comes is above low: so a major squash at any moment is never seen.
func TestLowHolds(t *testing.T) {
	r := rand.New(rand.NewSource(1511))
	came, gone := 0, 0
	for range 40 {
		h := drawHistory(r, two, 150)
		x := newNode(t, r, h, map[string]int{})
		b := &bench{TB: t, x: x.x, m: x.m}
		last := b.m.Stat()
		for x.x.Applied() < len(h.log) {
			had := seqs(b.entries())
			x.apply()
			now := b.m.Stat()
			if now.Clock < last.Clock || now.Low < last.Low || now.Low >= now.Clock || now.Applied != last.Applied+1 {
				t.Fatalf("%+v behind %+v", now, last)
			}
			last = now
			for _, e := range b.entries() {
				if !slices.Contains(had, e.Seq) {
					came++
					if e.Ts <= now.Low || e.Seq/16 != now.Applied {
						t.Fatalf("%+v came at %+v", e, now)
					}
				}
			}
			if r.Intn(12) == 0 {
				gone += collect(t, b)
				x.look()
			}
		}
		x.look()
	}
	if came < 2000 || gone < 1000 {
		t.Errorf("%d entries came, %d went", came, gone)
	}
}

func seqs(l []api.Entry) []int {
	var out []int
	for _, e := range l {
		out = append(out, e.Seq)
	}
	return out
}

// collect flushes, and squashes all runs by a major job: how many entries are gone.
func collect(t *testing.T, b *bench) int {
	t.Helper()
	before := b.entries()
	mustErr(t, "Flush", b.m.Flush(), api.OK)
	var picks []int
	for _, run := range b.x.Runs() {
		picks = append(picks, run.Num)
	}
	if len(picks) == 0 {
		return 0
	}
	j, err := squash.Start(b.x, picks, true)
	mustErr(t, "Start", err, api.OK)
	_, err = j.Finish()
	mustErr(t, "Finish", err, api.OK)
	want, err := retain.Squash(b.x.Schema(), b.x.Clock(), true, b.x.Low(), before...)
	mustErr(t, "Squash", err, api.OK)
	if got := b.entries(); !same(got, want) {
		t.Fatalf("%+v, want %+v", got, want)
	}
	return len(before) - len(want)
}
