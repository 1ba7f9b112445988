package run_test

import (
	"bytes"
	"encoding/binary"
	"math"
	"math/rand"
	"slices"
	"testing"

	"strata/api"
	"strata/cell"
	"strata/run"
)

// 7.1
func TestARunIsLaidSo(t *testing.T) {
	k := "a\x00\x01\x00\x01q\x00\x01\x01\x7f\xff\xff\xff\xff\xff\xff\xf8\x7f\xff\xff\xff\xff\xff\xff\xde\x01"
	blk := summed([]byte("\x00\x1a" + k + "\x01v" + "\x00\x00\x00\x00" + "\x00\x00\x00\x01" + "\x10"))
	fil := summed(filter(t, 10, []api.Entry{one()})) // which bits it has is chapter 6's matter
	idx := summed([]byte("\x01\x1a" + k + "\x1a" + k + "\x2b"))
	nums := []byte{}
	for _, n := range []uint64{1, 9, 3, 5, 1, 51, 69} {
		nums = binary.BigEndian.AppendUint64(nums, n)
	}
	got := write(t, opts, one())
	want := slices.Concat([]byte("STRATA-R"), blk, fil, idx, frame(nums))
	if !bytes.Equal(got, want) {
		t.Errorf("% x, want % x", got, want)
	}
	if n := len(frame(nums)); n != 68 {
		t.Errorf("the foot has %d bytes", n)
	}
}

// 7.1: without bits there is no byte of a filter, but its sum.
func TestARunWithoutAFilter(t *testing.T) {
	o := with(opts, func(o *api.RunOpts) { o.Bits = 0 })
	p := partsOf(t, o, []api.Entry{one()})
	b := write(t, o, one())
	if !bytes.Equal(b, p.run()) || !bytes.Equal(b[51:55], make([]byte, 4)) {
		t.Errorf("% x, want % x", b, p.run())
	}
}

// 7.1, 7.3
func TestRunsAgainstTheModel(t *testing.T) {
	r := rand.New(rand.NewSource(70))
	for range 500 {
		o := api.RunOpts{Block: 64 + r.Intn(1+r.Intn(600)), Bits: r.Intn(21), Index: 1<<30 + r.Intn(1<<30), Clock: 1 + r.Intn(1000)}
		o.Low = r.Intn(o.Clock)
		l := draw(r, 1+r.Intn(60))
		p := partsOf(t, o, l)
		if b := write(t, o, l...); !bytes.Equal(b, p.run()) {
			t.Fatalf("Write(%+v, %d entries): % x, want % x", o, len(l), b, p.run())
		}
	}
}

// 7.3: a block ends with the entry that brings it to the target, not ahead of it and not behind.
func TestWhereABlockEnds(t *testing.T) {
	entry := func(row string) api.Entry {
		e := put(row, 7, 33)
		e.Value = []byte(long(60))
		return e
	}
	l := []api.Entry{entry("a"), entry("b"), entry("c")}
	size := len(partsOf(t, opts, l[:1]).blocks[0].bytes)
	for target, blocks := range map[int]int{size - 1: 3, size: 3, size + 1: 2} {
		o := with(opts, func(o *api.RunOpts) { o.Block = target })
		if b := write(t, o, l...); len(open(t, b).Blocks()) != blocks {
			t.Errorf("target %d, blocks of %d bytes: %d blocks, want %d", target, size, len(open(t, b).Blocks()), blocks)
		}
	}
}

// 7.3: the greatest target, and entries of the greatest size.
func TestGreatBlocks(t *testing.T) {
	var l []api.Entry
	for i := range 60 {
		e := put(string(make([]byte, 254))+string([]byte{byte(i), 0}), api.MaxTime, api.MaxSeq)
		e.Qual, e.Value, e.Fam = make([]byte, 256), []byte(long(4096)), 7
		l = append(l, e)
	}
	o := api.RunOpts{Block: 65536, Bits: 20, Index: api.MaxIndex, Low: api.MaxTime - 1, Clock: api.MaxTime}
	p := partsOf(t, o, l)
	b := write(t, o, l...)
	if !bytes.Equal(b, p.run()) || len(p.blocks) < 2 || len(p.blocks[0].bytes) < 65536 {
		t.Errorf("%d bytes, %d blocks", len(b), len(p.blocks))
	}
	mustGive(t, "All", open(t, b).All(), l, api.OK)
}

// 7.2
func TestOptionsThatMayBe(t *testing.T) {
	wild := []int{math.MinInt, math.MinInt32, -1, 0, 1, 2, 4, 5, 6, 20, 21, 63, 64, 65535, 65536, 65537, 1 << 31, 1<<40 - 1, 1 << 40, 1<<40 + 1, 1 << 60, math.MaxInt}
	e := put("a", 7, 15)
	try := func(o api.RunOpts) {
		may := o.Block >= 64 && o.Block <= 65536 && o.Bits >= 0 && o.Bits <= 20 && o.Index >= 0 && o.Index <= 1<<40 && o.Clock >= 1 && o.Clock <= 1<<40 && o.Low >= 0 && o.Low < o.Clock
		b, err := run.Write(o, e)
		if may && (err != api.OK || len(b) == 0) || !may && (err != api.ErrOpts || len(b) != 0) {
			t.Fatalf("Write(%+v): %d bytes, %d", o, len(b), err)
		}
		if m := (api.RunMeta{}); may {
			m = open(t, b).Meta()
			if m.Index != o.Index || m.Low != o.Low || m.Clock != o.Clock {
				t.Fatalf("Write(%+v): %+v", o, m)
			}
		}
	}
	for _, n := range wild {
		try(with(opts, func(o *api.RunOpts) { o.Block = n }))
		try(with(opts, func(o *api.RunOpts) { o.Bits = n }))
		try(with(opts, func(o *api.RunOpts) { o.Index = n }))
		for _, low := range wild {
			try(with(opts, func(o *api.RunOpts) { o.Clock, o.Low = n, low }))
		}
	}
}

// 7.2: what comes first is told.
func TestWriteTellsTheFirstError(t *testing.T) {
	bad := put("", 7, 33)
	none := opts
	none.Block = 63
	for i, w := range []struct {
		o    api.RunOpts
		l    []api.Entry
		want api.Errno
	}{
		{none, nil, api.ErrOpts},
		{none, []api.Entry{bad}, api.ErrOpts},
		{opts, nil, api.ErrEmpty},
		{opts, []api.Entry{put("a", 7, 33), put("a", 8, 34)}, api.ErrOrder},
		{opts, []api.Entry{one(), one()}, api.ErrOrder},
		{opts, []api.Entry{put("a", 7, 160)}, api.ErrSeq},
		{opts, []api.Entry{put("a", 7, 159)}, api.OK},
		{with(opts, func(o *api.RunOpts) { o.Index = 0 }), []api.Entry{put("a", 7, 15)}, api.OK},
		{with(opts, func(o *api.RunOpts) { o.Index = 0 }), []api.Entry{put("a", 7, 16)}, api.ErrSeq},
		{with(opts, func(o *api.RunOpts) { o.Index = api.MaxIndex }), []api.Entry{put("a", 7, api.MaxSeq)}, api.OK},
		{with(opts, func(o *api.RunOpts) { o.Index = api.MaxIndex }), []api.Entry{put("a", 7, api.MaxSeq+1)}, api.ErrSeq},
		{opts, []api.Entry{put("", 7, 160)}, api.ErrRow},
		{opts, []api.Entry{put("b", 7, 33), put("a", 7, 160)}, api.ErrSeq},
		{opts, []api.Entry{put("b", 7, 33), put("a", 0, 160)}, api.ErrTs},
		{opts, []api.Entry{put("b", 7, 33), put("a", 7, 33), bad}, api.ErrOrder},
		{opts, []api.Entry{put("b", 7, 33), put("b", 7, 160), put("a", 7, 33)}, api.ErrSeq},
		{opts, []api.Entry{put("b", 7, 33), bad, put("a", 7, 160)}, api.ErrRow},
		{opts, []api.Entry{put("b", 7, 33), put("c", 7, 160), put("a", 0, 33)}, api.ErrSeq},
	} {
		if b, err := run.Write(w.o, w.l...); err != w.want || (len(b) > 0) != (err == api.OK) {
			t.Errorf("%d: %d bytes, %d, want %d", i, len(b), err, w.want)
		}
	}
}

// 7.2: the errors of cell.Check are handed on.
func TestWriteTakesEntriesAlone(t *testing.T) {
	for _, change := range []func(*api.Entry){
		func(e *api.Entry) { e.Row = nil },
		func(e *api.Entry) { e.Row = []byte(long(257)) },
		func(e *api.Entry) { e.Fam = 8 },
		func(e *api.Entry) { e.Fam = -1 },
		func(e *api.Entry) { e.Qual = []byte(long(257)) },
		func(e *api.Entry) { e.Kind = api.KFam },
		func(e *api.Entry) { e.Ts = 0 },
		func(e *api.Entry) { e.Seq = -1 },
		func(e *api.Entry) { e.Seq = api.MaxSeq + 1 },
		func(e *api.Entry) { e.Kind = 6 },
		func(e *api.Entry) { e.Kind = api.KHusk },
		func(e *api.Entry) { e.Value = []byte(long(4097)) },
	} {
		e := put("b", 7, 33)
		change(&e)
		for _, l := range [][]api.Entry{{e}, {one(), e}, {one(), e, put("c", 7, 33)}} {
			if b, err := run.Write(opts, l...); err == api.OK || err != cell.Check(e) || len(b) != 0 {
				t.Errorf("%+v: %d bytes, %d", e, len(b), err)
			}
		}
	}
}

// filled is a list whose run has so many bytes.
func filled(t *testing.T, o api.RunOpts, bytes int) []api.Entry {
	t.Helper()
	var l []api.Entry
	add := func(value int) {
		e := put(string(binary.BigEndian.AppendUint32([]byte("row"), uint32(len(l)))), 7, 33)
		e.Value = []byte(long(value))
		l = append(l, e)
	}
	size := func() int { return len(write(t, o, l...)) }
	for range bytes/4400 - 1 {
		add(4096)
	}
	for range (bytes - 20000 - size()) / 4150 {
		add(4096)
	}
	for size() < bytes-9000 {
		add(4096)
	}
	// The last ones take up what is left, and leave room for more in each of them.
	add(200)
	add(200)
	add(200)
	for round := 0; size() != bytes; round++ {
		if round == 9 {
			t.Fatalf("%d bytes, want %d", size(), bytes)
		}
		gap := bytes - size()
		for i := len(l) - 3; i < len(l); i++ {
			n := min(max(len(l[i].Value)+gap, 200), 4000)
			gap -= n - len(l[i].Value)
			l[i].Value = []byte(long(n))
		}
	}
	return l
}

// 7.2, 7.4: a run of MaxRunBytes bytes is one, and of one byte more it is none; that comes behind all else.
func TestTheLongestRun(t *testing.T) {
	for _, bits := range []int{0, 20} {
		o := with(opts, func(o *api.RunOpts) { o.Block, o.Bits = 65536, bits })
		l := filled(t, o, 16777216)
		b := write(t, o, l...)
		x := open(t, b)
		mustVerify(t, "the longest run", x, -1, api.OK)
		mustGive(t, "the longest run", x.All(), l, api.OK)
		last := &l[len(l)-1]
		last.Value = append(last.Value, 'x')
		if b, err := run.Write(o, l...); len(b) != 0 || err != api.ErrLong {
			t.Errorf("Write of one byte too many: %d bytes, %d", len(b), err)
		}
		for _, w := range []struct {
			e    api.Entry
			want api.Errno
		}{{put("z", 7, 33), api.ErrLong}, {put("z", 7, 160), api.ErrSeq}, {put("z", 0, 33), api.ErrTs}, {put("a", 7, 33), api.ErrOrder}} {
			if b, err := run.Write(o, append(slices.Clone(l), w.e)...); len(b) != 0 || err != w.want {
				t.Errorf("a last entry %+v: %d bytes, %d, want %d", w.e, len(b), err, w.want)
			}
		}
		if x, err := run.Open(append(b, 0)); x != nil || err != api.ErrLong {
			t.Errorf("Open of one byte too many: %d", err)
		}
	}
}

// 7.2: more rows than a filter takes are too long for a run anyway.
func TestTooManyRows(t *testing.T) {
	if testing.Short() {
		t.Skip("many rows")
	}
	l := make([]api.Entry, 1<<20+1)
	for i := range l {
		l[i] = api.Entry{Row: binary.BigEndian.AppendUint32(nil, uint32(i)), Ts: 7, Seq: 33, Kind: api.KFam}
	}
	o := with(opts, func(o *api.RunOpts) { o.Block = 65536 })
	if b, err := run.Write(o, l...); len(b) != 0 || err != api.ErrLong {
		t.Errorf("%d bytes, %d", len(b), err)
	}
}

// 7.10
func TestUnlikeIsUnlike(t *testing.T) {
	r := rand.New(rand.NewSource(710))
	for range 40 {
		l := draw(r, 2+r.Intn(12))
		lists := [][]api.Entry{l, l[1:], l[:len(l)-1]}
		for i, e := range l {
			if e.Kind == api.KPut {
				other := slices.Clone(l)
				other[i].Value = append(bytes.Clone(e.Value), 0)
				lists = append(lists, other)
			}
		}
		options := []api.RunOpts{wide}
		for _, change := range []func(*api.RunOpts){
			func(o *api.RunOpts) { o.Index++ }, func(o *api.RunOpts) { o.Low-- }, func(o *api.RunOpts) { o.Clock++ },
			func(o *api.RunOpts) { o.Bits = 0 }, func(o *api.RunOpts) { o.Bits = 20 }, func(o *api.RunOpts) { o.Block = 64 },
		} {
			options = append(options, with(wide, change))
		}
		seen := map[string]parts{}
		for _, l := range lists {
			for _, o := range options {
				b := write(t, o, l...)
				if !bytes.Equal(b, write(t, o, l...)) {
					t.Fatal("two runs of the same are unlike")
				}
				p := partsOf(t, o, l)
				if was, there := seen[string(b)]; there && !bytes.Equal(was.run(), p.run()) {
					t.Fatalf("one run of unlike entries or options: %+v", o)
				}
				seen[string(b)] = p
			}
		}
		if len(seen) < len(lists)*5 {
			t.Fatalf("%d runs of %d lists", len(seen), len(lists))
		}
	}
}
