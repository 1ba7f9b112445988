package cell_test

import (
	"bytes"
	"math"
	"math/rand"
	"testing"

	"strata/api"
	"strata/cell"
	"strata/wire"
)

func pack(t *testing.T, e api.Entry) []byte {
	t.Helper()
	p, err := cell.Pack(e)
	if err != api.OK {
		t.Fatalf("Pack(%+v): %d", e, err)
	}
	return p
}

// 2.6
func TestPackIsLaidSo(t *testing.T) {
	for _, e := range someEntries() {
		want := join(wire.Bytes(key(t, e)), wire.Bytes(e.Value))
		if got := pack(t, e); !bytes.Equal(got, want) {
			t.Fatalf("Pack(%+v) = % x, want % x", e, got, want)
		}
	}
	if got, want := pack(t, base()), append(append([]byte{26}, key(t, base())...), 1, 'v'); !bytes.Equal(got, want) {
		t.Errorf("Pack = % x, want % x", got, want)
	}
}

// 2.7, 2.11
func TestUnpackReadsPacked(t *testing.T) {
	l := someEntries()
	r := rand.New(rand.NewSource(27))
	for range 1000 {
		l = append(l, randomEntry(r))
	}
	for _, around := range [][2]string{{"", ""}, {"\xff", "\x00"}, {"\x00\x80", "\xff\xff\xff"}, {"abc", "\x05"}} {
		for _, e := range l {
			p := pack(t, e)
			b := join([]byte(around[0]), p, []byte(around[1]))
			at := len(around[0])
			got, end, err := cell.Unpack(b, at)
			if err != api.OK || end != at+len(p) || !same(got, e) {
				t.Fatalf("Unpack(% x, %d) = %+v, %d, %d, want %+v, %d", b, at, got, end, err, e, at+len(p))
			}
		}
	}
}

// 2.7: the longest key has 1048 bytes, and no more are taken.
func TestUnpackBoundsTheKey(t *testing.T) {
	zeros := string(make([]byte, 256))
	e := with(row(zeros), qual(zeros), value(long(4096)))
	if k := key(t, e); len(k) != 1048 {
		t.Fatalf("the longest key has %d bytes", len(k))
	}
	p := pack(t, e)
	if got, end, err := cell.Unpack(p, 0); err != api.OK || end != len(p) || !same(got, e) {
		t.Errorf("Unpack of the longest = %d, %d", end, err)
	}
	if _, end, err := cell.Unpack(join(wire.Uint(1048), make([]byte, 1048), []byte{0}), 0); err != api.ErrPack || end != 0 {
		t.Errorf("a key of 1048 bytes 0: %d, want ErrPack", err)
	}
	if _, end, err := cell.Unpack(join(wire.Uint(1049), make([]byte, 1049), []byte{0}), 0); err != api.ErrBig || end != 0 {
		t.Errorf("a key of 1049 bytes: %d, want ErrBig", err)
	}
}

// 2.7
func TestUnpackRefuses(t *testing.T) {
	k := key(t, base())
	packed := wire.Bytes(k)
	ofKind := func(n byte) []byte { return wire.Bytes(append(bytes.Clone(k[:len(k)-1]), n)) }
	col := wire.Bytes(key(t, with(kind(api.KCol), value(""))))
	wholeFam := wire.Bytes(key(t, with(kind(api.KFam), qual(""), value(""))))
	p := pack(t, base())
	for i, x := range []struct {
		b   []byte
		at  int
		err api.Errno
	}{
		{nil, 1, api.ErrArg}, {nil, -1, api.ErrArg}, {p, len(p) + 1, api.ErrArg}, {p, math.MinInt, api.ErrArg}, {p, math.MaxInt, api.ErrArg},
		{nil, 0, api.ErrTorn}, {p, len(p), api.ErrTorn}, {[]byte{0x80}, 0, api.ErrTorn}, {[]byte{26}, 0, api.ErrTorn}, {packed[:9], 0, api.ErrTorn},
		{[]byte{0x80, 0}, 0, api.ErrForm}, {[]byte{0xff, 0xff, 0xff, 0xff, 0xff, 0xff, 0xff, 0xff, 0xff, 2}, 0, api.ErrBig}, {wire.Uint(1049), 0, api.ErrBig},
		{[]byte{0}, 0, api.ErrPack}, {[]byte{1, 9}, 0, api.ErrPack}, {append(ofKind(6), 0), 0, api.ErrPack}, {append(ofKind(4), 0), 0, api.ErrPack},
		{ofKind(6), 0, api.ErrPack}, // the key comes ahead of a value that is cut off
		{append(wire.Bytes(k[:len(k)-1]), 1, 1, 'v'), 0, api.ErrPack},
		{packed, 0, api.ErrTorn}, {append(bytes.Clone(packed), 1), 0, api.ErrTorn}, {append(bytes.Clone(packed), 0x80), 0, api.ErrTorn},
		{append(bytes.Clone(packed), 0x80, 0), 0, api.ErrForm},
		{join(packed, wire.Uint(4097)), 0, api.ErrBig}, {join(packed, wire.Bytes(make([]byte, 4097))), 0, api.ErrBig},
		{append(ofKind(2), 1, 'v'), 0, api.ErrPack}, {append(ofKind(3), 1, 'v'), 0, api.ErrPack},
		{append(bytes.Clone(col), 1, 'v'), 0, api.ErrPack}, {append(bytes.Clone(wholeFam), 1, 'v'), 0, api.ErrPack},
		{append(ofKind(2), 1), 0, api.ErrTorn}, {join(ofKind(2), wire.Uint(4097)), 0, api.ErrBig}, // the value's bytes come ahead of what they may be
	} {
		if e, end, err := cell.Unpack(x.b, x.at); err != x.err || end != 0 || !empty(e) {
			t.Errorf("%d: Unpack(% x, %d) = %+v, %d, %d, want %d", i, x.b, x.at, e, end, err, x.err)
		}
	}
}

// 2.7: a cut anywhere is told as one.
func TestUnpackOfACut(t *testing.T) {
	for _, e := range someEntries() {
		p := pack(t, e)
		for n := range p {
			if got, end, err := cell.Unpack(p[:n], 0); err != api.ErrTorn || end != 0 || !empty(got) {
				t.Fatalf("Unpack(%d of %d bytes) = %+v, %d, %d, want ErrTorn", n, len(p), got, end, err)
			}
		}
	}
}

// 2.11: what Unpack reads is Pack of the entry, byte for byte, whatever was done to the bytes.
func TestUnpackReadsNothingElse(t *testing.T) {
	r := rand.New(rand.NewSource(211))
	read := 0
	for range 60000 {
		p := pack(t, randomEntry(r))
		b := join([]byte{7}, p, []byte{3, 1, 4})
		for range r.Intn(3) {
			b[1+r.Intn(len(b)-1)] = byte(r.Intn(8))
		}
		e, end, err := cell.Unpack(b, 1)
		if err != api.OK {
			if end != 0 || !empty(e) {
				t.Fatalf("Unpack(% x) = %+v, %d beside %d", b, e, end, err)
			}
			continue
		}
		read++
		if end > len(b) || !bytes.Equal(pack(t, e), b[1:end]) {
			t.Fatalf("Unpack(% x) = %+v, %d", b, e, end)
		}
	}
	if read == 0 {
		t.Error("nothing was read")
	}
}
