package block_test

import (
	"bytes"
	"encoding/binary"
	"hash/crc32"
	"math/rand"
	"slices"
	"testing"

	"strata/api"
	"strata/block"
	"strata/cell"
)

// put is an entry of the kind that the chapter's examples turn about.
func put(row string, ts int, value string) api.Entry {
	return api.Entry{Row: []byte(row), Qual: []byte("q"), Ts: ts, Seq: 32, Kind: api.KPut, Value: []byte(value)}
}

func mark(kind int, row, qual string, ts int) api.Entry {
	return api.Entry{Row: []byte(row), Qual: []byte(qual), Ts: ts, Seq: 32, Kind: kind}
}

// three are a, b and c of the chapter's examples.
func three() []api.Entry { return []api.Entry{put("r", 5, "v"), put("r", 4, "v"), put("s", 5, "v")} }

func same(a, b api.Entry) bool {
	return bytes.Equal(a.Row, b.Row) && a.Fam == b.Fam && bytes.Equal(a.Qual, b.Qual) &&
		a.Ts == b.Ts && a.Seq == b.Seq && a.Kind == b.Kind && bytes.Equal(a.Value, b.Value)
}

func sameAll(a, b []api.Entry) bool { return slices.EqualFunc(a, b, same) }

func key(t testing.TB, e api.Entry) []byte {
	t.Helper()
	k, err := cell.Key(e)
	if err != api.OK {
		t.Fatalf("Key(%+v): %d", e, err)
	}
	return k
}

func long(n int) string { return string(bytes.Repeat([]byte{'x'}, n)) }

// draw is a list in order, of few letters, so that many keys begin alike.
func draw(r *rand.Rand, n int) []api.Entry {
	text := func(n int) []byte {
		b := make([]byte, n)
		for i := range b {
			b[i] = "\x00\x01ab\xfe\xff"[r.Intn(6)]
		}
		return b
	}
	l := make([]api.Entry, n)
	for i := range l {
		e := api.Entry{Row: text(1 + r.Intn(3)), Fam: r.Intn(3), Qual: text(r.Intn(3)), Ts: 1 + r.Intn(600), Seq: r.Intn(40), Kind: 1 + r.Intn(5)}
		switch e.Kind {
		case api.KFam:
			e.Qual = nil
		case api.KPut:
			e.Value = text(r.Intn(6))
		}
		switch r.Intn(40) {
		case 0:
			e.Row = text(200 + r.Intn(57))
		case 1:
			e.Ts, e.Seq = api.MaxTime, api.MaxSeq
		case 2:
			e.Kind, e.Value = api.KPut, text(100+r.Intn(200))
		}
		l[i] = e
	}
	slices.SortFunc(l, cell.Compare)
	return slices.CompactFunc(l, func(a, b api.Entry) bool { return cell.Compare(a, b) == 0 })
}

// number and text are wire.Uint and wire.Bytes once more.
func number(n uint64) []byte { return binary.AppendUvarint(nil, n) }

func text(b []byte) []byte { return append(number(uint64(len(b))), b...) }

func record(shared int, rest, value []byte) []byte {
	return slices.Concat(number(uint64(shared)), text(rest), text(value))
}

func join(parts ...[]byte) []byte { return slices.Concat(parts...) }

func alike(a, b []byte) int {
	for i := range min(len(a), len(b)) {
		if a[i] != b[i] {
			return i
		}
	}
	return min(len(a), len(b))
}

// foot lays the places, the number of entries, restart and the sum behind the entries.
func foot(entries []byte, places []int, count uint32, restart int) []byte {
	out := bytes.Clone(entries)
	for _, p := range places {
		out = binary.BigEndian.AppendUint32(out, uint32(p))
	}
	return sum(append(binary.BigEndian.AppendUint32(out, count), byte(restart)))
}

func sum(b []byte) []byte {
	s := crc32.Checksum(b, crc32.MakeTable(crc32.Castagnoli))
	return binary.LittleEndian.AppendUint32(bytes.Clone(b), s)
}

// resum is b with the sum that its other bytes have.
func resum(b []byte) []byte { return sum(b[:len(b)-4]) }

// laid is the block of a list in order, as the chapter's section on the bytes says.
func laid(t testing.TB, restart int, l []api.Entry) []byte {
	var entries, ahead []byte
	var places []int
	for i, e := range l {
		k, n := key(t, e), 0
		if i%restart == 0 {
			places = append(places, len(entries))
		} else {
			n = alike(ahead, k)
		}
		entries = append(entries, record(n, k[n:], e.Value)...)
		ahead = k
	}
	return foot(entries, places, uint32(len(l)), restart)
}

// loose reads the entries of what may be a block, and leaves it to whoever lays them again to see whether they were written so.
func loose(b []byte) (l []api.Entry, restart int, ok bool) {
	at, k := 0, []byte(nil)
	read := func() uint64 {
		n, size := binary.Uvarint(b[at:])
		if size <= 0 || n > uint64(len(b)) {
			ok = false
			return 0
		}
		at += size
		return n
	}
	piece := func() []byte {
		n := int(read())
		if !ok || at+n > len(b) {
			ok = false
			return nil
		}
		at += n
		return b[at-n : at]
	}
	ok, restart = true, int(b[len(b)-5])
	for range binary.BigEndian.Uint32(b[len(b)-9:]) {
		n := int(read())
		rest, value := piece(), piece()
		if !ok || n > len(k) {
			return nil, 0, false
		}
		k = join(k[:n], rest)
		e, err := cell.ParseKey(k)
		e.Value = value
		if err != api.OK || cell.Check(e) != api.OK || len(l) > 0 && cell.Compare(l[len(l)-1], e) != -1 {
			return nil, 0, false
		}
		l = append(l, e)
	}
	return l, restart, len(l) > 0 && restart >= 1 && restart <= 16
}

// verdict is what Open is to say of b, and the entries that it is to find.
func verdict(t testing.TB, b []byte) ([]api.Entry, api.Errno) {
	switch {
	case len(b) > 131072:
		return nil, api.ErrLong
	case len(b) < 9:
		return nil, api.ErrBlock
	case !bytes.Equal(resum(b), b):
		return nil, api.ErrBlockSum
	}
	l, restart, ok := loose(b)
	if !ok || !bytes.Equal(laid(t, restart, l), b) {
		return nil, api.ErrBlock
	}
	return l, api.OK
}

func build(t testing.TB, restart int, l ...api.Entry) []byte {
	t.Helper()
	b, err := block.Build(restart, l...)
	if err != api.OK {
		t.Fatalf("Build(%d, %d entries): %d", restart, len(l), err)
	}
	return b
}

func open(t testing.TB, b []byte) *block.Block {
	t.Helper()
	x, err := block.Open(b)
	if err != api.OK || x == nil {
		t.Fatalf("Open: %v, %d", x, err)
	}
	return x
}

func begin(t testing.TB, restart int) *block.Builder {
	t.Helper()
	b, err := block.Begin(restart)
	if err != api.OK || b == nil {
		t.Fatalf("Begin(%d): %v, %d", restart, b, err)
	}
	return b
}

func all(x *block.Block) []api.Entry { return slices.Collect(x.All()) }

func mustAdd(t testing.TB, b *block.Builder, e api.Entry, want api.Errno) {
	t.Helper()
	if err := b.Add(e); err != want {
		t.Fatalf("Add(%+v): %d, want %d", e, err, want)
	}
}

// mustHold: the builder is one of just these entries.
func mustHold(t testing.TB, b *block.Builder, restart int, l []api.Entry) {
	t.Helper()
	got, err := b.Finish()
	if len(l) == 0 {
		if len(got) != 0 || err != api.ErrBlockEmpty || b.Size() != 0 || b.Count() != 0 {
			t.Fatalf("without an entry: % x, %d, Size %d, Count %d", got, err, b.Size(), b.Count())
		}
		return
	}
	want := laid(t, restart, l)
	if err != api.OK || !bytes.Equal(got, want) {
		t.Fatalf("Finish: % x, %d, want % x", got, err, want)
	}
	if b.Size() != len(want) || b.Count() != len(l) {
		t.Fatalf("Size %d, Count %d, want %d and %d", b.Size(), b.Count(), len(want), len(l))
	}
}
