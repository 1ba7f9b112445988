package run_test

import (
	"bytes"
	"math"
	"math/rand"
	"slices"
	"testing"

	"strata/api"
	"strata/block"
	"strata/run"
)

// 7.4 to 7.8: the chapter's examples of reading.
func TestTheExamplesOfReading(t *testing.T) {
	b := write(t, opts, one())
	x := open(t, b)
	m := x.Meta()
	if m.Count != 1 || m.Index != 9 || m.Low != 3 || m.Clock != 5 || !bytes.Equal(m.First, m.Last) {
		t.Errorf("%+v", m)
	}
	mustGive(t, "All", x.All(), []api.Entry{one()}, api.OK)
	if !x.May([]byte("a")) || x.May([]byte("b")) || x.May(nil) {
		t.Error("May")
	}
	mustGive(t, "Seek behind it", x.Seek(put("a", 6, 33)), nil, api.OK)
	mustRefuse(t, "without its last byte", b[:len(b)-1], api.ErrRun)
	mustRefuse(t, "nothing", nil, api.ErrRun)
	for bit := 64; bit < 8*x.Blocks()[0][1]; bit++ {
		broken := open(t, turn(b, bit))
		mustVerify(t, "a bit turned", broken, 0, api.ErrBroken)
		mustGive(t, "a bit turned", broken.All(), nil, api.ErrBroken)
	}
}

// 7.9
func TestWhatWasWrittenIsReadAsItWas(t *testing.T) {
	r := rand.New(rand.NewSource(79))
	for range 300 {
		o := with(wide, func(o *api.RunOpts) { o.Block, o.Bits = 64+r.Intn(500), r.Intn(21) })
		l := draw(r, 1+r.Intn(80))
		x := open(t, write(t, o, l...))
		mustGive(t, "All", x.All(), l, api.OK)
		mustVerify(t, "what was written", x, -1, api.OK)
	}
}

// oddities are values that are mostly no entry, about e.
func oddities(r *rand.Rand, e api.Entry) []api.Entry {
	var out []api.Entry
	for _, n := range []int{math.MinInt, -1, 0, 1, 5, 6, 7, math.MaxInt} {
		for _, change := range []func(x *api.Entry){
			func(x *api.Entry) { x.Ts = n }, func(x *api.Entry) { x.Seq = n }, func(x *api.Entry) { x.Kind = n }, func(x *api.Entry) { x.Fam = n },
		} {
			x := e
			change(&x)
			out = append(out, x)
		}
	}
	for _, b := range [][]byte{nil, {}, {0}, {255}, []byte(long(300)), append(bytes.Clone(e.Row), 0), e.Row[:len(e.Row)-1], letters(r, r.Intn(4))} {
		x, y := e, e
		x.Row, y.Qual = b, b
		out = append(out, x, y)
	}
	x := e
	x.Value = []byte(long(5000))
	return append(out, x, api.Entry{}, api.Entry{Row: e.Row}, api.Entry{Row: e.Row, Ts: math.MaxInt, Kind: api.KFam})
}

// 7.7, 7.11
func TestSeek(t *testing.T) {
	r := rand.New(rand.NewSource(711))
	for range 12 {
		o := with(wide, func(o *api.RunOpts) { o.Block = 64 + r.Intn(200) })
		l := draw(r, 1+r.Intn(60))
		x := open(t, write(t, o, l...))
		for i, e := range l {
			mustGive(t, "Seek of an entry", x.Seek(e), l[i:], api.OK)
			for _, odd := range oddities(r, e) {
				mustGive(t, "Seek of something else", x.Seek(odd), notAhead(l, odd), api.OK)
			}
		}
		for _, e := range draw(r, 60) {
			mustGive(t, "Seek of another one", x.Seek(e), notAhead(l, e), api.OK)
		}
	}
}

// 7.7: any number of cursors, each going its own way.
func TestCursorsGoTheirOwnWays(t *testing.T) {
	r := rand.New(rand.NewSource(712))
	l := draw(r, 60)
	x := open(t, write(t, with(wide, func(o *api.RunOpts) { o.Block = 100 }), l...))
	var cursors []*run.Cursor
	var wants [][]api.Entry
	for range 30 {
		e := l[r.Intn(len(l))]
		cursors, wants = append(cursors, x.All(), x.Seek(e)), append(wants, l, notAhead(l, e))
	}
	for range 20000 {
		i := r.Intn(len(cursors))
		e, more, err := cursors[i].Next()
		if err != api.OK || more != (len(wants[i]) > 0) {
			t.Fatalf("%v, %d", more, err)
		}
		if !more {
			if !isZero(e) {
				t.Fatalf("%+v at the end", e)
			}
			continue
		}
		if !same(e, wants[i][0]) {
			t.Fatalf("%+v, want %+v", e, wants[i][0])
		}
		wants[i] = wants[i][1:]
	}
}

// replaced is the parts with another block in the place of one, and the index as it was, but for the length.
func replaced(p parts, at int, b []byte) parts {
	p.blocks = slices.Clone(p.blocks)
	p.blocks[at].bytes, p.blocks[at].size = b, uint64(len(b))
	p.place()
	return p
}

func build(t testing.TB, restart int, l ...api.Entry) []byte {
	t.Helper()
	b, err := block.Build(restart, l...)
	if err != api.OK {
		t.Fatalf("block.Build: %d", err)
	}
	return b
}

// brokenBlocks are blocks that may not stand in the place of the two entries.
func brokenBlocks(t testing.TB, a, b api.Entry) map[string][]byte {
	t.Helper()
	early, late, between := a, b, a
	early.Seq++
	late.Seq--
	between.Seq--
	other := b
	other.Kind, other.Value = api.KCell, nil
	whole := build(t, 16, a, b)
	return map[string][]byte{
		"an entry ahead":       build(t, 16, early, a, b),
		"an entry behind":      build(t, 16, a, b, late),
		"without the first":    build(t, 16, b),
		"without the last":     build(t, 16, a),
		"another first":        build(t, 16, early, b),
		"another first, later": build(t, 16, between, b),
		"another last":         build(t, 16, a, late),
		"a last of a kind":     build(t, 16, a, other),
		"cut":                  whole[:len(whole)-1],
		"a bit turned":         turn(whole, 70),
		"one byte":             {0},
		"zeros":                make([]byte, 80),
		"too long":             make([]byte, 131073),
	}
}

// 7.7, 7.8
func TestABrokenBlockIsTold(t *testing.T) {
	l, p := four(t)
	first := starts(t, p)
	for at := range p.blocks {
		a, b := l[first[at]], l[first[at]+1]
		for what, bad := range brokenBlocks(t, a, b) {
			q := replaced(p, at, bad)
			x := open(t, q.run())
			mustVerify(t, what, x, at, api.ErrBroken)
			mustGive(t, what, x.All(), l[:first[at]], api.ErrBroken)
			for i, e := range l {
				switch {
				case i < first[at]:
					mustGive(t, what, x.Seek(e), l[i:first[at]], api.ErrBroken)
				case i < first[at]+2:
					mustGive(t, what, x.Seek(e), nil, api.ErrBroken)
				default:
					mustGive(t, what, x.Seek(e), l[i:], api.OK)
				}
			}
		}
	}
}

// 7.7: what a block may be, so long as its first and last key are the index's: more entries, other values, another restart.
func TestABlockThatIsNotBroken(t *testing.T) {
	l, p := four(t)
	a, b := l[2], l[3]
	more, other := a, a
	more.Seq--
	other.Value = []byte("other")
	for what, in := range map[string][]api.Entry{"one more": {a, more, b}, "another value": {other, b}, "as it was": {a, b}} {
		for _, restart := range []int{1, 2, 16} {
			q := replaced(p, 1, build(t, restart, in...))
			x := open(t, q.run())
			want := slices.Concat(l[:2], in, l[4:])
			mustGive(t, what, x.All(), want, api.OK)
			end := api.OK
			if len(in) == 3 {
				end = api.ErrRun // the foot says fewer
			}
			mustVerify(t, what, x, -1, end)
		}
	}
}

// 7.7: a block is read when its first entry is needed, and no other one is.
func TestABlockIsReadWhenItIsNeeded(t *testing.T) {
	l, p := four(t)
	x := open(t, replacedRun(p, 1, make([]byte, 80)))
	c := x.All()
	for i := range 2 {
		if e, more, err := c.Next(); !same(e, l[i]) || !more || err != api.OK {
			t.Fatalf("entry %d: %+v, %v, %d", i, e, more, err)
		}
	}
	for range 3 {
		if e, more, err := c.Next(); !isZero(e) || more || err != api.ErrBroken {
			t.Fatalf("%+v, %v, %d", e, more, err)
		}
	}
	mustGive(t, "behind the broken one", x.Seek(l[4]), l[4:], api.OK)
	gap := l[1]
	gap.Ts = 1 // behind the last entry of the first block, ahead of the second one's first
	mustGive(t, "ahead of the broken one", x.Seek(gap), nil, api.ErrBroken)
	mustGive(t, "behind all", x.Seek(put("z", 1, 1)), nil, api.OK)
	mustGive(t, "a second cursor", x.All(), l[:2], api.ErrBroken)
}

func replacedRun(p parts, at int, b []byte) []byte {
	q := replaced(p, at, b)
	return q.run()
}

// 7.8: the first broken block is told, ahead of all else.
func TestVerifyTellsTheFirst(t *testing.T) {
	_, p := four(t)
	q := replaced(replaced(p, 1, make([]byte, 80)), 3, []byte{1})
	q.foot[0] = 99
	mustVerify(t, "two broken ones", open(t, q.run()), 1, api.ErrBroken)
	q = replaced(p, 3, []byte{1})
	q.foot[0], q.foot[1] = 99, 0
	mustVerify(t, "the last one, and a foot that is wrong", open(t, q.run()), 3, api.ErrBroken)
}

// 7.8
func TestVerifyHoldsTheFootAgainstTheEntries(t *testing.T) {
	l, p := four(t)
	for n := uint64(4); n < 20; n++ {
		p.foot[0] = n
		want := api.ErrRun
		if n == 8 {
			want = api.OK
		}
		mustVerify(t, "a count", open(t, p.run()), -1, want)
	}
	for at := range l {
		in := slices.Clone(l)
		in[at].Seq = 175
		in[at].Ts += (at + 1) % 2 // so that the order stays
		q := partsOf(t, with(opts, func(o *api.RunOpts) { o.Index = 10 }), in)
		mustVerify(t, "the greatest Seq", open(t, q.run()), -1, api.OK)
		q.foot[1] = 9
		x := open(t, q.run())
		mustVerify(t, "a Seq above", x, -1, api.ErrRun)
		mustGive(t, "a Seq above", x.All(), in, api.OK)
		q.foot[1] = 11
		mustVerify(t, "a Seq below", open(t, q.run()), -1, api.OK)
	}
}

// 7.8
func TestVerifyHoldsTheFilterAgainstTheRows(t *testing.T) {
	r := rand.New(rand.NewSource(78))
	for round := range 60 {
		l := draw(r, 1+r.Intn(40))
		p := partsOf(t, wide, l)
		for bits := 0; bits <= 20; bits++ {
			q := p
			q.filter = nil
			if bits > 0 {
				q.filter = filter(t, bits, l)
			}
			q.place()
			mustVerify(t, "the right filter", open(t, q.run()), -1, api.OK)
			if bits == 0 || round%4 > 0 {
				continue
			}
			q.filter = turn(q.filter, 48+r.Intn(8*len(q.filter)-48))
			mustVerify(t, "a bit of the filter turned", open(t, q.run()), -1, api.ErrRun)
			q.filter = filter(t, bits, append(slices.Clone(l), put("another", 1, 1), put("and one more", 1, 1)))
			q.place()
			mustVerify(t, "the filter of more rows", open(t, q.run()), -1, api.ErrRun)
			q.filter = filter(t, bits, nil)
			q.place()
			mustVerify(t, "the filter of no rows", open(t, q.run()), -1, api.ErrRun)
		}
		q := p
		q.filter = bytes.Clone(filter(t, 10, l))
		q.filter[1] = 6 // 9 bits make 6 places, and 10 bits 7
		mustVerifyAs(t, l, q)
	}
}

// mustVerifyAs: a filter is right just if some number of bits makes it.
func mustVerifyAs(t *testing.T, l []api.Entry, p parts) {
	t.Helper()
	want := api.ErrRun
	for bits := 1; bits <= 20; bits++ {
		if bytes.Equal(filter(t, bits, l), p.filter) {
			want = api.OK
		}
	}
	mustVerify(t, "a filter of other places", open(t, p.run()), -1, want)
}

func turn(b []byte, bits ...int) []byte {
	out := bytes.Clone(b)
	for _, bit := range bits {
		out[bit/8] ^= 1 << (bit % 8)
	}
	return out
}

// mustTell: with these bits turned the run is refused, or told by Verify, and no entry comes of it that was not written.
func mustTell(t *testing.T, b []byte, l []api.Entry, first []int, bits ...int) {
	t.Helper()
	x, err := run.Open(turn(b, bits...))
	if err != api.OK {
		if x != nil || err != api.ErrRun {
			t.Fatalf("the bits %v turned: Open: %v, %d", bits, x, err)
		}
		return
	}
	n, err := x.Verify()
	if err != api.ErrBroken || n < 0 {
		t.Fatalf("the bits %v turned: Verify: %d, %d", bits, n, err)
	}
	spoilt := len(first) - 1
	for i, from := range x.Blocks() {
		if slices.ContainsFunc(bits, func(bit int) bool { return bit/8 >= from[0] && bit/8 < from[1] }) {
			spoilt = min(spoilt, i)
		}
	}
	if n != spoilt {
		t.Fatalf("the bits %v turned: Verify: %d, want %d", bits, n, spoilt)
	}
	mustGive(t, "bits turned", x.All(), l[:first[n]], api.ErrBroken)
}

// 7.13
func TestWhatIsSpoiltIsTold(t *testing.T) {
	r := rand.New(rand.NewSource(713))
	small := []api.Entry{put("a", 8, 34), put("a", 7, 33), put("b", 8, 34)}
	many := draw(r, 80)
	for _, w := range []struct {
		o api.RunOpts
		l []api.Entry
	}{{opts, small}, {with(opts, func(o *api.RunOpts) { o.Bits = 0 }), small}, {wide, many}} {
		b := write(t, w.o, w.l...)
		first := starts(t, partsOf(t, w.o, w.l))
		size := 8 * len(b)
		for bit := range size {
			mustTell(t, b, w.l, first, bit)
		}
		for range 3000 {
			mustTell(t, b, w.l, first, some(r, 1+r.Intn(3), 0, size)...)
			at := r.Intn(size - 31)
			mustTell(t, b, w.l, first, some(r, 1+r.Intn(32), at, 32)...)
		}
		// Where two parts meet a burst lies in both.
		for _, meet := range meets(open(t, b), len(b)) {
			for range 100 {
				at := min(max(8*meet-r.Intn(33), 0), size-32)
				mustTell(t, b, w.l, first, some(r, 1+r.Intn(32), at, 32)...)
			}
		}
	}
}

// some are so many unlike bits from a place on.
func some(r *rand.Rand, n, from, within int) []int {
	var out []int
	for len(out) < n {
		if bit := from + r.Intn(within); !slices.Contains(out, bit) {
			out = append(out, bit)
		}
	}
	return out
}

// meets are the places where a run's parts meet.
func meets(x *run.Run, size int) []int {
	out := []int{8, size - 68, size - 64, size - 60, size - 4}
	for _, b := range x.Blocks() {
		out = append(out, b[1])
	}
	return out
}
