package run_test

import (
	"bytes"
	"math"
	"math/rand"
	"slices"
	"testing"

	"strata/api"
	"strata/bloom"
	"strata/run"
)

// four is a list that makes four blocks of two entries, and its parts.
func four(t testing.TB) ([]api.Entry, parts) {
	t.Helper()
	var l []api.Entry
	for _, row := range []string{"b", "c", "d", "e"} {
		a, b := put(row, 8, 34), put(row, 7, 33)
		a.Value, b.Value = []byte(long(9)), []byte(long(9))
		l = append(l, a, b)
	}
	p := partsOf(t, opts, l)
	if !slices.Equal(starts(t, p), []int{0, 2, 4, 6}) || !bytes.Equal(p.run(), write(t, opts, l...)) {
		t.Fatalf("the blocks begin at %v", starts(t, p))
	}
	return l, p
}

func mustRefuse(t testing.TB, what string, b []byte, want api.Errno) {
	t.Helper()
	if r, err := run.Open(b); r != nil || err != want {
		t.Errorf("%s: Open: %v, %d, want %d", what, r, err, want)
	}
}

// fault is a way to spoil the parts of a run.
type fault struct {
	what  string
	spoil func(p *parts)
}

func faultsOfTheFoot() []fault {
	l := []fault{
		{"the beginning", func(p *parts) { p.begin = []byte("STRATA-M") }},
		{"no entries", func(p *parts) { p.foot[0] = 0 }},
		{"fewer entries than blocks", func(p *parts) { p.foot[0] = 3 }},
		{"an index above the last one", func(p *parts) { p.foot[1] = 1<<40 + 1 }},
		{"low as the clock", func(p *parts) { p.foot[2] = 5 }},
		{"low above the clock", func(p *parts) { p.foot[2] = 6 }},
		{"no clock", func(p *parts) { p.foot[2], p.foot[3] = 0, 0 }},
		{"a clock above the last one", func(p *parts) { p.foot[3] = 1<<40 + 1 }},
		{"no block", func(p *parts) { p.foot[4] = 0 }},
		{"no block anywhere", func(p *parts) { p.blocks, p.count = nil, 0; p.place() }},
		{"a block too few", func(p *parts) { p.foot[4]-- }},
		{"a block too many", func(p *parts) { p.foot[4]++ }},
		{"a filter at 7", func(p *parts) { p.foot[5] = 7 }},
		{"a filter at 0", func(p *parts) { p.foot[5] = 0 }},
		{"a filter a byte too early", func(p *parts) { p.foot[5]-- }},
		{"a filter a byte too late", func(p *parts) { p.foot[5]++ }},
		{"a filter three bytes ahead of the index", func(p *parts) { p.foot[5] = p.foot[6] - 3 }},
		{"a filter at the index", func(p *parts) { p.foot[5] = p.foot[6] }},
		{"a filter behind the index", func(p *parts) { p.foot[5] = p.foot[6] + 1 }},
		{"a filter far away", func(p *parts) { p.foot[5] = math.MaxInt64 }},
		{"both far away", func(p *parts) { p.foot[5], p.foot[6] = math.MaxInt64-4, math.MaxInt64 }},
		{"an index a byte too early", func(p *parts) { p.foot[6]-- }},
		{"an index a byte too late", func(p *parts) { p.foot[6]++ }},
		{"an index three bytes ahead of the foot", func(p *parts) { p.foot[6] = uint64(len(p.run())) - 68 - 3 }},
		{"an index at the foot", func(p *parts) { p.foot[6] = uint64(len(p.run())) - 68 }},
		{"an index at the end", func(p *parts) { p.foot[6] = uint64(len(p.run())) }},
		{"an index far away", func(p *parts) { p.foot[6] = math.MaxInt64 }},
		{"an index at 0", func(p *parts) { p.foot[6] = 0 }},
	}
	for i := range 7 {
		l = append(l, fault{"a number with its highest bit", func(p *parts) { p.foot[i] |= 1 << 63 }})
	}
	return l
}

func faultsOfTheIndex() []fault {
	return []fault{
		{"a block too few in the index", func(p *parts) { p.count-- }},
		{"a block too many in the index", func(p *parts) { p.count++ }},
		{"many blocks", func(p *parts) { p.count = math.MaxUint64 }},
		{"many blocks in both", func(p *parts) { p.count, p.foot[4], p.foot[0] = 1<<62, 1<<62, 1<<62 }},
		{"a byte behind the index's blocks", func(p *parts) { p.behind = []byte{0} }},
		{"another block behind", func(p *parts) { p.behind = slices.Concat(text(p.blocks[3].first), text(p.blocks[3].last), number(0)) }},
		{"no first key", func(p *parts) { p.blocks[0].first = nil }},
		{"no last key", func(p *parts) { p.blocks[3].last = nil }},
		{"a first key that is none", func(p *parts) { p.blocks[1].first = p.blocks[1].first[:9] }},
		{"a last key that is none", func(p *parts) { p.blocks[1].last = append(bytes.Clone(p.blocks[1].last), 0) }},
		{"first behind last", func(p *parts) { b := &p.blocks[2]; b.first, b.last = b.last, b.first }},
		{"last as the next one's first", func(p *parts) { p.blocks[1].last = p.blocks[2].first }},
		{"the first one's last as the second one's first", func(p *parts) { p.blocks[0].last = p.blocks[1].first }},
		{"the third one's last as the fourth one's first", func(p *parts) { p.blocks[2].last = p.blocks[3].first }},
		{"last behind the next one's first", func(p *parts) { p.blocks[1].last = p.blocks[2].last }},
		{"blocks the wrong way round", func(p *parts) { p.blocks[1], p.blocks[2] = p.blocks[2], p.blocks[1] }},
		{"a length of 0", func(p *parts) { p.blocks[1].size = 0 }},
		{"a length of 0, its bytes the next one's", func(p *parts) { p.blocks[2].size += p.blocks[1].size; p.blocks[1].size = 0 }},
		{"a length too short", func(p *parts) { p.blocks[1].size-- }},
		{"a length too long", func(p *parts) { p.blocks[1].size++ }},
		{"the last length too short", func(p *parts) { p.blocks[3].size-- }},
		{"the last length too long", func(p *parts) { p.blocks[3].size++ }},
		{"a very long length", func(p *parts) { p.blocks[3].size = math.MaxUint64 }},
		{"lengths that wrap round", func(p *parts) { p.blocks[0].size += 1 << 63; p.blocks[1].size += 1 << 63 }},
		{"lengths that are 32 bits too many", func(p *parts) { p.blocks[3].size += 1 << 32 }},
		{"a block's bytes that no length counts", func(p *parts) { p.blocks[3].bytes = append(bytes.Clone(p.blocks[3].bytes), 0); p.place() }},
	}
}

func faultsOfTheFilter() []fault {
	other := func(f func(b []byte) []byte) func(p *parts) {
		return func(p *parts) { p.filter = f(bytes.Clone(p.filter)); p.place() }
	}
	return []fault{
		{"a filter of another letter", other(func(b []byte) []byte { b[0] = 'C'; return b })},
		{"a filter of no places", other(func(b []byte) []byte { b[1] = 0; return b })},
		{"a filter of 15 places", other(func(b []byte) []byte { b[1] = 15; return b })},
		{"a filter that is too short", other(func(b []byte) []byte { return b[:len(b)-1] })},
		{"a filter that is too long", other(func(b []byte) []byte { return append(b, 0) })},
		{"one byte of a filter", other(func(b []byte) []byte { return b[:1] })},
	}
}

// 7.4: each of the things that Open looks at, in a run whose sums are right.
func TestOpenRefusesWhatIsNoRun(t *testing.T) {
	for _, f := range slices.Concat(faultsOfTheFoot(), faultsOfTheIndex(), faultsOfTheFilter()) {
		_, p := four(t)
		f.spoil(&p)
		mustRefuse(t, f.what, p.run(), api.ErrRun)
	}
}

// 7.4: the sums of the parts.
func TestOpenLooksAtTheSums(t *testing.T) {
	_, p := four(t)
	b := p.run()
	for _, at := range []int{int(p.foot[6]) - 1, int(p.foot[6]) - 4, len(b) - 69, len(b) - 72, int(p.foot[5]) + 9, int(p.foot[6]) + 9, len(b) - 1, len(b) - 68, len(b) - 61, len(b) - 40} {
		spoilt := bytes.Clone(b)
		spoilt[at] ^= 0x20
		mustRefuse(t, "a byte turned", spoilt, api.ErrRun)
	}
	// Sums with the highest byte first are none.
	for _, end := range []int{int(p.foot[6]), len(b) - 68} {
		spoilt := bytes.Clone(b)
		slices.Reverse(spoilt[end-4 : end])
		mustRefuse(t, "a sum the wrong way round", spoilt, api.ErrRun)
	}
}

// 7.4: the foot is the last 68 bytes, and just those.
func TestOpenWantsTheFootAtTheEnd(t *testing.T) {
	_, p := four(t)
	b := p.run()
	mustRefuse(t, "a byte behind", append(bytes.Clone(b), 0), api.ErrRun)
	mustRefuse(t, "a byte ahead", append([]byte{0}, b...), api.ErrRun)
	mustRefuse(t, "two feet", append(bytes.Clone(b), p.footBytes()...), api.ErrRun)
	foot := p.footBytes()
	for _, n := range []int{48, 55, 57, 64} {
		body := append(bytes.Clone(foot[8:64]), make([]byte, 8)...)[:n]
		mustRefuse(t, "a frame of another length", append(b[:len(b)-68:len(b)-68], frame(body)...), api.ErrRun)
	}
	// A frame of six numbers at the right place, and bytes behind it.
	short := append(frame(foot[8:56]), make([]byte, 8)...)
	mustRefuse(t, "a shorter frame", append(b[:len(b)-68:len(b)-68], short...), api.ErrRun)
	for n := range b {
		mustRefuse(t, "a beginning", b[:n], api.ErrRun)
		mustRefuse(t, "an end", b[n+1:], api.ErrRun)
	}
	mustRefuse(t, "nothing", nil, api.ErrRun)
	mustRefuse(t, "a foot alone", p.footBytes(), api.ErrRun)
	mustRefuse(t, "the beginning and a foot", append([]byte("STRATA-R"), p.footBytes()...), api.ErrRun)
}

// 7.4: ErrLong is ahead of all else.
func TestOpenOfTooMuch(t *testing.T) {
	mustRefuse(t, "zeros", make([]byte, 16777217), api.ErrLong)
	mustRefuse(t, "zeros that may be a run", make([]byte, 16777216), api.ErrRun)
}

// 7.4: what Open does not look at it does not refuse.
func TestOpenPassesOverTheBlocks(t *testing.T) {
	l, p := four(t)
	for _, f := range []fault{
		{"blocks of zeros", func(p *parts) {
			for i, b := range p.blocks {
				p.blocks[i].bytes = make([]byte, len(b.bytes))
			}
		}},
		{"blocks of one byte", func(p *parts) {
			for i := range p.blocks {
				p.blocks[i].bytes, p.blocks[i].size = []byte{7}, 1
			}
			p.place()
		}},
		{"a great block", func(p *parts) { p.blocks[0].bytes, p.blocks[0].size = make([]byte, 131073), 131073; p.place() }},
	} {
		_, p := four(t)
		f.spoil(&p)
		x := open(t, p.run())
		mustVerify(t, f.what, x, 0, api.ErrBroken)
		mustGive(t, f.what, x.All(), nil, api.ErrBroken)
	}
	p.foot[0] = math.MaxInt64
	x := open(t, p.run())
	if m := x.Meta(); m.Count != math.MaxInt64 {
		t.Errorf("%+v", m)
	}
	mustGive(t, "a wrong count", x.All(), l, api.OK)
	mustVerify(t, "a wrong count", x, -1, api.ErrRun)
}

// 7.5
func TestMeta(t *testing.T) {
	r := rand.New(rand.NewSource(75))
	for range 100 {
		o := with(wide, func(o *api.RunOpts) { o.Index += r.Intn(100); o.Clock += r.Intn(100); o.Low = r.Intn(o.Clock) })
		l := draw(r, 1+r.Intn(50))
		b := write(t, o, l...)
		m := open(t, b).Meta()
		if m.Num != 0 || m.Count != len(l) || m.Index != o.Index || m.Low != o.Low || m.Clock != o.Clock || m.Bytes != len(b) ||
			!bytes.Equal(m.First, key(t, l[0])) || !bytes.Equal(m.Last, key(t, l[len(l)-1])) {
			t.Fatalf("%+v of %+v and %d entries", m, o, len(l))
		}
	}
}

// 7.5: where the index and the foot say otherwise than the blocks, they are what is told.
func TestMetaByIndexAndFoot(t *testing.T) {
	_, p := four(t)
	first, last := put("a", 9, 5), put("z", 1, 1)
	p.foot[0] = 77
	p.blocks[0].first, p.blocks[3].last = key(t, first), key(t, last)
	x := open(t, p.run())
	if m := x.Meta(); m.Count != 77 || !bytes.Equal(m.First, key(t, first)) || !bytes.Equal(m.Last, key(t, last)) || m.Bytes != len(p.run()) {
		t.Errorf("%+v", m)
	}
}

// 7.5
func TestBlocks(t *testing.T) {
	r := rand.New(rand.NewSource(76))
	for range 100 {
		l := draw(r, 1+r.Intn(60))
		p := partsOf(t, wide, l)
		got := open(t, p.run()).Blocks()
		at := 8
		for i, b := range p.blocks {
			if i >= len(got) || got[i] != [2]int{at, at + len(b.bytes)} {
				t.Fatalf("block %d: %v, want %d to %d", i, got, at, at+len(b.bytes))
			}
			at += len(b.bytes)
		}
		if len(got) != len(p.blocks) {
			t.Fatalf("%d blocks, want %d", len(got), len(p.blocks))
		}
	}
}

// 7.6, 7.12
func TestMay(t *testing.T) {
	r := rand.New(rand.NewSource(77))
	no := 0
	for range 200 {
		l := draw(r, 1+r.Intn(30))
		for _, bits := range []int{0, 1, 5, 10, 20} {
			o := with(wide, func(o *api.RunOpts) { o.Bits = bits })
			x := open(t, write(t, o, l...))
			for _, e := range l {
				if !x.May(e.Row) {
					t.Fatalf("no to the row %q, which it has", e.Row)
				}
			}
			rows := [][]byte{nil, {}, {0}, {255}, {255, 255, 255, 255}, append(bytes.Clone(l[0].Row), 0), append(bytes.Clone(l[len(l)-1].Row), 0), []byte(long(1000))}
			for range 40 {
				rows = append(rows, letters(r, r.Intn(5)))
			}
			for _, row := range rows {
				want := bytes.Compare(row, l[0].Row) >= 0 && bytes.Compare(row, l[len(l)-1].Row) <= 0
				if want && bits > 0 {
					want, _ = bloom.Has(filter(t, bits, l), row)
				}
				if x.May(row) != want {
					t.Fatalf("May(%q) with %d bits: %v", row, bits, !want)
				}
				if !want {
					no++
				}
			}
		}
	}
	if no < 1000 {
		t.Errorf("only %d of what was asked was refused", no)
	}
}

// 7.6: the rows of the index count, and a filter that lies is believed.
func TestMayByIndexAndFilter(t *testing.T) {
	_, p := four(t)
	p.blocks[3].last = key(t, put("m", 1, 1))
	p.filter = filter(t, 10, []api.Entry{put("m", 1, 1), put("n", 1, 1)})
	p.place()
	x := open(t, p.run())
	for row, want := range map[string]bool{"m": true, "n": false, "b": false, "a": false} {
		if x.May([]byte(row)) != want {
			t.Errorf("May(%s): %v", row, !want)
		}
	}
	p.filter = nil
	p.place()
	x = open(t, p.run())
	for row, want := range map[string]bool{"m": true, "n": false, "b": true, "a": false, "cc": true, "": false} {
		if x.May([]byte(row)) != want {
			t.Errorf("May(%s) without a filter: %v", row, !want)
		}
	}
}
