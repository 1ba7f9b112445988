package run_test

import (
	"bytes"
	"math"
	"math/rand"
	"slices"
	"sync"
	"testing"

	"strata/api"
	"strata/cell"
	"strata/run"
)

// roomy is bytes with spare room behind them that can be looked at.
func roomy(b []byte) []byte {
	whole := slices.Concat(b, bytes.Repeat([]byte{0xc3}, 64))
	return whole[:len(b):len(whole)]
}

// scribble writes over bytes and their spare room.
func scribble(b []byte) {
	b = b[:cap(b)]
	for i := range b {
		b[i] = ^b[i]
	}
}

// deep is a list of entries with bytes of their own, and one more entry in the spare room behind it.
func deep(l []api.Entry) []api.Entry {
	out := make([]api.Entry, 0, len(l)+1)
	for _, e := range append(l[:len(l):len(l)], put("spare", 1, 1)) {
		e.Row, e.Qual, e.Value = roomy(e.Row), roomy(e.Qual), roomy(e.Value)
		out = append(out, e)
	}
	return out[:len(l)]
}

// wholes: all bytes that a list of entries reaches, in copies.
func wholes(l []api.Entry) [][]byte {
	var out [][]byte
	for _, e := range l[:cap(l)] {
		for _, b := range [][]byte{e.Row, e.Qual, e.Value} {
			out = append(out, bytes.Clone(b[:cap(b)]))
		}
	}
	return out
}

func scribbleAll(l []api.Entry) {
	for i, e := range l {
		scribble(e.Row)
		scribble(e.Qual)
		scribble(e.Value)
		l[i] = api.Entry{Ts: -1}
	}
}

// 7.14
func TestWhatIsHandedInIsNeitherChangedNorKept(t *testing.T) {
	r := rand.New(rand.NewSource(714))
	for range 40 {
		l := draw(r, 1+r.Intn(40))
		in := deep(l)
		was, entries := wholes(in), slices.Clone(in[:cap(in)])
		b := write(t, wide, in...)
		if !slices.EqualFunc(wholes(in), was, bytes.Equal) || !sameAll(in[:cap(in)], entries) {
			t.Fatal("Write changed what it was handed")
		}
		scribbleAll(in)
		p := partsOf(t, wide, l)
		if !bytes.Equal(b, p.run()) {
			t.Fatal("Write answers memory that was handed in")
		}
		handed := roomy(b)
		whole := bytes.Clone(handed[:cap(handed)])
		x := open(t, handed)
		mustGive(t, "All", x.All(), l, api.OK)
		mustVerify(t, "what was written", x, -1, api.OK)
		if !bytes.Equal(handed[:cap(handed)], whole) {
			t.Fatal("Open, or what follows it, changed what it was handed")
		}
		c := x.All()
		scribble(handed)
		mustGive(t, "a cursor from earlier on", c, l, api.OK)
		mustVerify(t, "what was written over", x, -1, api.OK)
		if m := x.Meta(); m.Bytes != len(b) || !bytes.Equal(m.First, key(t, l[0])) || !x.May(l[0].Row) {
			t.Fatalf("Open keeps what it was handed: %+v", m)
		}
	}
}

// 7.14: what Seek is handed is not kept until the first Next.
func TestSeekKeepsNothing(t *testing.T) {
	l := draw(rand.New(rand.NewSource(715)), 40)
	x := open(t, write(t, wide, l...))
	for i := range l {
		in := deep(l[i : i+1])
		was := wholes(in)
		c := x.Seek(in[0])
		x.May(in[0].Row)
		if !slices.EqualFunc(wholes(in), was, bytes.Equal) {
			t.Fatal("Seek or May changed what it was handed")
		}
		scribbleAll(in)
		mustGive(t, "Seek", c, l[i:], api.OK)
	}
}

// 7.14: answers share no memory with the run, with each other, or within themselves.
func TestAnswersAreNewMemory(t *testing.T) {
	l := draw(rand.New(rand.NewSource(716)), 60)
	b := write(t, wide, l...)
	scribble(write(t, wide, l...))
	x := open(t, b)
	c, twin := x.All(), x.All()
	for i := range l {
		e, _, _ := c.Next()
		other, _, _ := twin.Next()
		for _, part := range []func(*api.Entry) *[]byte{
			func(e *api.Entry) *[]byte { return &e.Row },
			func(e *api.Entry) *[]byte { return &e.Qual },
			func(e *api.Entry) *[]byte { return &e.Value },
		} {
			scribble(*part(&e))
			*part(&e) = bytes.Clone(*part(&l[i]))
			if !same(e, l[i]) {
				t.Fatalf("the lists of entry %d share memory", i)
			}
		}
		if !same(other, l[i]) {
			t.Fatalf("two answers of entry %d share memory", i)
		}
	}
	m, n := x.Meta(), x.Meta()
	scribble(m.First)
	if !bytes.Equal(m.Last, n.Last) || !bytes.Equal(n.First, key(t, l[0])) {
		t.Error("First shares memory")
	}
	scribble(m.Last)
	blocks := x.Blocks()
	clear(blocks[:cap(blocks)])
	if n := x.Meta(); !bytes.Equal(n.First, key(t, l[0])) || !bytes.Equal(n.Last, key(t, l[len(l)-1])) || x.Blocks()[0][0] != 8 {
		t.Errorf("what was answered is the run's own: %+v", n)
	}
	mustGive(t, "All", x.All(), l, api.OK)
	mustVerify(t, "all was written over", x, -1, api.OK)
}

// 7.7: cursors of one run may be used side by side.
func TestCursorsSideBySide(t *testing.T) {
	l := draw(rand.New(rand.NewSource(717)), 60)
	x := open(t, write(t, wide, l...))
	var group sync.WaitGroup
	for i := range 8 {
		group.Go(func() {
			mustGiveAll(t, x.Seek(l[i]), l[i:])
			if n, err := x.Verify(); n != -1 || err != api.OK || !x.May(l[i].Row) {
				t.Errorf("Verify: %d, %d", n, err)
			}
		})
	}
	group.Wait()
}

// mustGiveAll may be called by any goroutine.
func mustGiveAll(t *testing.T, c *run.Cursor, want []api.Entry) {
	for _, w := range want {
		if e, more, err := c.Next(); !more || err != api.OK || !same(e, w) {
			t.Errorf("%+v, %v, %d, want %+v", e, more, err, w)
		}
	}
	if _, more, err := c.Next(); more || err != api.OK {
		t.Errorf("one more, %d", err)
	}
}

// mustHoldTogether: whatever bytes were opened, every call ends and fits the others.
func mustHoldTogether(t *testing.T, b []byte) {
	t.Helper()
	x, err := run.Open(b)
	if err != api.OK {
		if x != nil || err != api.ErrRun {
			t.Fatalf("Open: %v, %d", x, err)
		}
		return
	}
	blocks, m := x.Blocks(), x.Meta()
	if len(blocks) == 0 || m.Bytes != len(b) || m.Count < len(blocks) || bytes.Compare(m.First, m.Last) > 0 {
		t.Fatalf("%v, %+v", blocks, m)
	}
	x.May([]byte("a"))
	l, end := rest(t, x.All())
	if !slices.IsSortedFunc(l, cell.Compare) {
		t.Fatalf("out of order: %+v", l)
	}
	if n, err := x.Verify(); (err == api.ErrBroken) != (end == api.ErrBroken) || (err == api.ErrBroken) != (n >= 0) || err == api.OK && len(l) != m.Count {
		t.Fatalf("Verify: %d, %d; All ends with %d", n, err, end)
	}
	for _, e := range l {
		mustGive(t, "Seek", x.Seek(e), notAhead(l, e), end)
	}
}

// 7.14
func TestWhateverBytesCome(t *testing.T) {
	r := rand.New(rand.NewSource(718))
	for range 4000 {
		_, p := four(t)
		for range 1 + r.Intn(3) {
			spoil(r, &p)
		}
		mustHoldTogether(t, p.run())
	}
	for range 4000 {
		b := make([]byte, r.Intn(200))
		for i := range b {
			b[i] = byte(r.Intn(256) >> r.Intn(9))
		}
		copy(b, "STRATA-R"[:r.Intn(9)])
		mustHoldTogether(t, b)
	}
}

// spoil changes something of a run's parts.
func spoil(r *rand.Rand, p *parts) {
	wild := []uint64{0, 1, 7, 8, 9, 64, 1 << 31, 1 << 40, math.MaxInt64, math.MaxUint64}
	some := func(b []byte) []byte {
		b = bytes.Clone(b)
		if len(b) > 0 {
			b[r.Intn(len(b))] = byte(r.Intn(256))
		}
		return b
	}
	b := &p.blocks[r.Intn(len(p.blocks))]
	switch r.Intn(8) {
	case 0:
		p.foot[r.Intn(7)] = wild[r.Intn(len(wild))]
	case 1:
		p.foot[r.Intn(7)] += uint64(r.Intn(5)) - 2
	case 2:
		b.first = some(b.first)
	case 3:
		b.last = some(b.last)
	case 4:
		b.size = wild[r.Intn(len(wild))]
	case 5:
		b.bytes = some(b.bytes)
	case 6:
		b.bytes = summed(some(b.bytes[:len(b.bytes)-4]))
	case 7:
		p.filter = some(p.filter)
	}
}

// 7.14
func TestWhateverIsWritten(t *testing.T) {
	r := rand.New(rand.NewSource(719))
	wild := []int{math.MinInt, -1, 0, 1, 2, 5, 20, 64, 65536, 1 << 40, math.MaxInt}
	pick := func() int { return wild[r.Intn(len(wild))] }
	for range 20000 {
		o := api.RunOpts{Block: pick(), Bits: pick(), Index: pick(), Low: pick(), Clock: pick()}
		e := api.Entry{Row: make([]byte, r.Intn(3)), Fam: pick(), Ts: pick(), Seq: pick(), Kind: pick(), Value: make([]byte, r.Intn(2)*r.Intn(5000))}
		l := []api.Entry{e, e}[:r.Intn(3)]
		if b, err := run.Write(o, l...); (len(b) > 0) != (err == api.OK) {
			t.Fatalf("%d bytes, %d", len(b), err)
		}
	}
}
