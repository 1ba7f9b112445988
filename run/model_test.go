package run_test

import (
	"bytes"
	"encoding/binary"
	"hash/crc32"
	"math/rand"
	"slices"
	"testing"

	"strata/api"
	"strata/block"
	"strata/bloom"
	"strata/cell"
	"strata/run"
)

// opts is o of the chapter's examples.
var opts = api.RunOpts{Block: 64, Bits: 10, Index: 9, Low: 3, Clock: 5}

// wide is o with an index that lets any Seq be that is drawn.
var wide = api.RunOpts{Block: 200, Bits: 10, Index: 1 << 30, Low: 3, Clock: 5}

// with is o with something changed.
func with(o api.RunOpts, change func(o *api.RunOpts)) api.RunOpts {
	change(&o)
	return o
}

func put(row string, ts, seq int) api.Entry {
	return api.Entry{Row: []byte(row), Qual: []byte("q"), Ts: ts, Seq: seq, Kind: api.KPut, Value: []byte("v")}
}

// one is the entry of the chapter's examples.
func one() api.Entry { return put("a", 7, 33) }

func same(a, b api.Entry) bool {
	return bytes.Equal(a.Row, b.Row) && a.Fam == b.Fam && bytes.Equal(a.Qual, b.Qual) &&
		a.Ts == b.Ts && a.Seq == b.Seq && a.Kind == b.Kind && bytes.Equal(a.Value, b.Value)
}

func sameAll(a, b []api.Entry) bool { return slices.EqualFunc(a, b, same) }

func isZero(e api.Entry) bool { return same(e, api.Entry{}) }

func key(t testing.TB, e api.Entry) []byte {
	t.Helper()
	k, err := cell.Key(e)
	if err != api.OK {
		t.Fatalf("Key(%+v): %d", e, err)
	}
	return k
}

func long(n int) string { return string(bytes.Repeat([]byte{'x'}, n)) }

func letters(r *rand.Rand, n int) []byte {
	b := make([]byte, n)
	for i := range b {
		b[i] = "\x00\x01ab\xfe\xff"[r.Intn(6)]
	}
	return b
}

// draw is a list in order, of few letters, so that rows stand there many times.
func draw(r *rand.Rand, n int) []api.Entry {
	l := make([]api.Entry, n)
	for i := range l {
		e := api.Entry{Row: letters(r, 1+r.Intn(3)), Fam: r.Intn(3), Qual: letters(r, r.Intn(3)), Ts: 1 + r.Intn(600), Seq: r.Intn(40), Kind: 1 + r.Intn(5)}
		switch e.Kind {
		case api.KFam:
			e.Qual = nil
		case api.KPut:
			e.Value = letters(r, r.Intn(6))
		}
		switch r.Intn(40) {
		case 0:
			e.Row = letters(r, 200+r.Intn(57))
		case 1:
			e.Ts, e.Seq = api.MaxTime, 1<<34
		case 2:
			e.Kind, e.Value = api.KPut, letters(r, 100+r.Intn(300))
		}
		l[i] = e
	}
	slices.SortFunc(l, cell.Compare)
	return slices.CompactFunc(l, func(a, b api.Entry) bool { return cell.Compare(a, b) == 0 })
}

// summed is bytes and their sum, the lowest byte first.
func summed(b []byte) []byte {
	s := crc32.Checksum(b, crc32.MakeTable(crc32.Castagnoli))
	return binary.LittleEndian.AppendUint32(bytes.Clone(b), s)
}

func number(n uint64) []byte { return binary.AppendUvarint(nil, n) }

func text(b []byte) []byte { return append(number(uint64(len(b))), b...) }

// part is a block as it stands in a run, and what the index says of it.
type part struct {
	bytes       []byte
	first, last []byte
	size        uint64
}

// parts is what a run is put together from. A test may spoil any of it, and the sums are right all the same.
type parts struct {
	begin  []byte
	blocks []part
	count  uint64 // of the blocks, in the index
	filter []byte
	behind []byte // the index's blocks
	foot   [7]uint64
}

// partsOf is a run of these entries, by the chapter's words alone.
func partsOf(t testing.TB, o api.RunOpts, l []api.Entry) parts {
	t.Helper()
	p := parts{begin: []byte("STRATA-R")}
	for rest := l; len(rest) > 0; {
		n := cutAt(t, o.Block, rest)
		b, _ := block.Build(16, rest[:n]...)
		p.blocks = append(p.blocks, part{b, key(t, rest[0]), key(t, rest[n-1]), uint64(len(b))})
		rest = rest[n:]
	}
	p.count = uint64(len(p.blocks))
	if o.Bits > 0 {
		p.filter = filter(t, o.Bits, l)
	}
	p.foot = [7]uint64{uint64(len(l)), uint64(o.Index), uint64(o.Low), uint64(o.Clock)}
	p.place()
	return p
}

// cutAt is how many of the entries the first block has: the fewest whose block has so many bytes.
func cutAt(t testing.TB, target int, l []api.Entry) int {
	t.Helper()
	for n := 1; n < len(l); n++ {
		b, err := block.Build(16, l[:n]...)
		if err != api.OK {
			t.Fatalf("Build: %d", err)
		}
		if len(b) >= target {
			return n
		}
	}
	return len(l)
}

func filter(t testing.TB, bits int, l []api.Entry) []byte {
	t.Helper()
	var rows [][]byte
	for _, e := range l {
		rows = append(rows, e.Row)
	}
	f, err := bloom.Build(bits, rows...)
	if err != api.OK {
		t.Fatalf("bloom.Build: %d", err)
	}
	return f
}

// place lets the foot say how many blocks there are, and where the filter and the index begin.
func (p *parts) place() {
	at := uint64(len(p.begin))
	for _, b := range p.blocks {
		at += uint64(len(b.bytes))
	}
	p.foot[4], p.foot[5], p.foot[6] = uint64(len(p.blocks)), at, at+uint64(len(p.filter))+4
}

func (p *parts) index() []byte {
	out := number(p.count)
	for _, b := range p.blocks {
		out = slices.Concat(out, text(b.first), text(b.last), number(b.size))
	}
	return append(out, p.behind...)
}

func frame(body []byte) []byte {
	return append(summed(binary.BigEndian.AppendUint32(nil, uint32(len(body)))), summed(body)...)
}

func (p *parts) footBytes() []byte {
	var body []byte
	for _, n := range p.foot {
		body = binary.BigEndian.AppendUint64(body, n)
	}
	return frame(body)
}

// run puts the parts together.
func (p *parts) run() []byte {
	out := bytes.Clone(p.begin)
	for _, b := range p.blocks {
		out = append(out, b.bytes...)
	}
	return slices.Concat(out, summed(p.filter), summed(p.index()), p.footBytes())
}

func write(t testing.TB, o api.RunOpts, l ...api.Entry) []byte {
	t.Helper()
	b, err := run.Write(o, l...)
	if err != api.OK || len(b) == 0 {
		t.Fatalf("Write(%+v, %d entries): %d bytes, %d", o, len(l), len(b), err)
	}
	return b
}

func open(t testing.TB, b []byte) *run.Run {
	t.Helper()
	r, err := run.Open(b)
	if err != api.OK || r == nil {
		t.Fatalf("Open: %v, %d", r, err)
	}
	return r
}

// rest is what a cursor still gives, and the error that it ends with; asked on, it answers the same.
func rest(t testing.TB, c *run.Cursor) ([]api.Entry, api.Errno) {
	t.Helper()
	var l []api.Entry
	for {
		e, more, err := c.Next()
		if more {
			if err != api.OK {
				t.Fatalf("an entry beside the error %d", err)
			}
			l = append(l, e)
			continue
		}
		for range 3 {
			if again, more, other := c.Next(); !isZero(e) || !isZero(again) || more || other != err {
				t.Fatalf("%+v, %d; then %+v, %v, %d", e, err, again, more, other)
			}
		}
		return l, err
	}
}

func mustGive(t testing.TB, what string, c *run.Cursor, want []api.Entry, end api.Errno) {
	t.Helper()
	if got, err := rest(t, c); err != end || !sameAll(got, want) {
		t.Fatalf("%s: %d entries, %d, want %d and %d", what, len(got), err, len(want), end)
	}
}

func mustVerify(t testing.TB, what string, r *run.Run, number int, want api.Errno) {
	t.Helper()
	for range 2 {
		if n, err := r.Verify(); n != number || err != want {
			t.Fatalf("%s: Verify: %d, %d, want %d, %d", what, n, err, number, want)
		}
	}
}

// notAhead is what of a list in order is not ahead of e.
func notAhead(l []api.Entry, e api.Entry) []api.Entry {
	for i, x := range l {
		if cell.Compare(x, e) >= 0 {
			return l[i:]
		}
	}
	return nil
}

// starts tells, of each block, how many entries stand ahead of it.
func starts(t testing.TB, p parts) []int {
	t.Helper()
	var out []int
	n := 0
	for _, b := range p.blocks {
		out = append(out, n)
		x, err := block.Open(b.bytes)
		if err != api.OK {
			t.Fatalf("block.Open: %d", err)
		}
		n += x.Len()
	}
	return out
}
